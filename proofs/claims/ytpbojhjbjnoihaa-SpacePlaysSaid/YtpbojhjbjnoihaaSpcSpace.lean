/-
  A space in memory: its cells, its map of parts, the rows of the parts; what it tells of itself. No conditions beyond those that each theorem types.
-/
import Derived.Test.YtpbojhjbjnoihaaSpcOut
import Derived.Test.YtpbojhjbjnoihaaSpcCopy
import Derived.Test.YtpbojhjbjnoihaaSpcMap
namespace Go.Proofs.Ytpbojhjbjnoihaa
open Go Go.RowKit
set_option maxRecDepth 100000
set_option linter.unusedVariables false
namespace Sp
theorem size_space : (Try.prog.info? 63).map (·.size) = some 3 := by kernel_rfl
theorem zero_part (w : World) : (zeroValue 60).run Try.prog w = .ok (.agg #[.slice none 0 0, .int .i64 0]) w := by kernel_rfl
/-- what a space keeps: how many cells, so many kept back, which ranges are free (0), used (1), on their way (2) -/
structure SS where
  cells : Nat
  kept : Nat
  S : Nat → List Rg
def zp : Value := .agg #[.slice none 0 0, .int .i64 0]
/-- the space lies in block b, its map in block m, of at most n entries; V: the rows of its parts -/
structure Mem (w : World) (base b m n : Nat) (F : Nat → Option Value) (V : Nat → Value) (s : SS) : Prop where
  blk : Blk w b 63 #[.int .i64 (s.cells : Int), .int .i64 (s.kept : Int), .map (some m)]
  map : MapI w m n F
  val : ∀ k, k < 3 → (F k).getD zp = .agg #[V k, .int .i64 (cnt (s.S k) : Int)]
  own : ∀ k, k < 3 → Own w base (V k) (s.S k)
  apart : ∀ k j, k < 3 → j < 3 → k ≠ j → ∀ g, (V k).ownBlock = some g → (V j).ownBlock ≠ some g
  lo : base ≤ b ∧ base ≤ m
/-- each cell is in one of the three -/
structure Good (s : SS) : Prop where
  hc : 1 ≤ s.cells ∧ s.cells ≤ 40000
  ris : ∀ k, k < 3 → Ris 0 (s.S k)
  in_ : ∀ k, k < 3 → ∀ c, mem (s.S k) c → c < s.cells
  one : ∀ k j c, k < 3 → j < 3 → mem (s.S k) c → mem (s.S j) c → k = j
  all : ∀ c, c < s.cells → ∃ k, k < 3 ∧ mem (s.S k) c
  kp : s.kept ≤ 1000000
structure Spc (w : World) (base b m n : Nat) (F : Nat → Option Value) (V : Nat → Value) (s : SS) : Prop where
  mem : Mem w base b m n F V s
  good : Good s
def SS.upd (s : SS) (k : Nat) (r : List Rg) : SS := { s with S := fun j => if j = k then r else s.S j }
def updV (V : Nat → Value) (k : Nat) (v : Value) (j : Nat) : Value := if j = k then v else V j
/-- what may have changed: the space's own blocks -/
structure Chg (w w' : World) (b m : Nat) (V V' : Nat → Value) : Prop where
  os : w'.os = w.os
  tape : w'.tape = w.tape
  output : w'.output = w.output
  size : w.heap.size ≤ w'.heap.size
  block : ∀ g, g < w.heap.size → g ≠ b → g ≠ m → (∀ k, k < 3 → (V k).ownBlock ≠ some g) → w'.heap[g]? = w.heap[g]?
  own : ∀ k, k < 3 → ∀ g, (V' k).ownBlock = some g → w.heap.size ≤ g ∨ ∃ j, j < 3 ∧ (V j).ownBlock = some g
section
variable {w w' : World} {base b m n : Nat} {F : Nat → Option Value} {V : Nat → Value} {s : SS}
theorem Mem.keep (h : Mem w base b m n F V s) (h1 : w'.heap[b]? = w.heap[b]?) (h2 : w'.heap[m]? = w.heap[m]?) (h3 : ∀ k, k < 3 → ∀ g, (V k).ownBlock = some g → w'.heap[g]? = w.heap[g]?) : Mem w' base b m n F V s :=
  ⟨h1.trans h.blk, h.map.block h2, h.val, fun k hk => (h.own k hk).keep (h3 k hk), h.apart, h.lo⟩
theorem Mem.below {B : Nat} (h : Mem w base b m n F V s) (hb : Below B w w') (hB : w.heap.size ≤ B) : Mem w' base b m n F V s :=
  h.keep (hb.block b (Nat.lt_of_lt_of_le h.blk.lt hB)) (hb.block m (Nat.lt_of_lt_of_le h.map.lt hB)) fun k hk g hg => hb.block g (Nat.lt_of_lt_of_le ((h.own k hk).lt hg).1 hB)
theorem Mem.drew (h : Mem w base b m n F V s) : Mem w.drew base b m n F V s := h.keep rfl rfl fun _ _ _ _ => rfl
theorem Mem.drewN (h : Mem w base b m n F V s) (q : Nat) : Mem (w.drewN q) base b m n F V s := by
  induction q with
  | zero => exact h
  | succ q ih => exact ih.drew
theorem Mem.look (h : Mem w base b m n F V s) {k : Nat} (hk : k < 3) : (Instr.lookup 61 (.map (some m)) (.int .i64 (k : Int)) false).run Try.prog w = .ok (.agg #[V k, .int .i64 (cnt (s.S k) : Int)]) w := by
  have h1 := h.map.look Try.underlying61 (zero_part w) (show k < 4611686018427387904 by omega) false
  have h2 := h.val k hk
  unfold zp at h2
  rw [h2] at h1
  exact h1
theorem Own.blk_of {v : Value} {l : List Rg} {g : Nat} (h : Own w base v l) (hg : v.ownBlock = some g) : ∃ cur, Blk w g 34 cur := by
  rcases h with ⟨rfl, _⟩ | ⟨q, c, cur, rfl, _, h2, _⟩
  · cases hg
  · injection hg with hg
    subst hg
    exact ⟨cur, h2⟩
theorem Mem.own_ne (h : Mem w base b m n F V s) {k : Nat} (hk : k < 3) : (V k).ownBlock ≠ some b ∧ (V k).ownBlock ≠ some m := by
  refine ⟨fun e => ?_, fun e => ?_⟩
  · obtain ⟨cur, h1⟩ := (h.own k hk).blk_of e
    have h2 := h.blk
    unfold Blk at h1 h2
    rw [h1] at h2
    injection h2 with h2
    injection h2 with _ h2
    exact absurd h2 (by decide)
  · obtain ⟨cur, h1⟩ := (h.own k hk).blk_of e
    exact h.map.ne_blk h1 rfl
/-- a part is changed, and put into the map -/
theorem Mem.step {w1 w2 : World} {k n' : Nat} {r : List Rg} {v' : Value} {F' : Nat → Option Value} (h : Mem w base b m n F V s) (hk : k < 3) (hp : PartPost w base (V k) r v' w1) (hm : MapI w2 m n' F') (hF : F' = putI F k (.agg #[v', .int .i64 (cnt r : Int)])) (hg : w1.grownBy w2 (some m)) :
    Mem w2 base b m n' F' (updV V k v') (s.upd k r) ∧ Chg w w2 b m V (updV V k v') := by
  obtain ⟨p1, p2, p3⟩ := hp
  have hne := h.own_ne hk
  have hbm : b ≠ m := fun e => h.map.ne_blk h.blk e.symm
  have b1 : w1.heap[b]? = w.heap[b]? := p2.block b h.blk.lt (fun e => hne.1 e.symm)
  have m1 : MapI w1 m n F := h.map.grown p2 (fun e => hne.2 e.symm)
  have hv' : ∀ g, v'.ownBlock = some g → g ≠ m := fun g hg e => by
    obtain ⟨cur, h1⟩ := p1.blk_of hg
    exact m1.ne_blk h1 e.symm
  have hfar : ∀ j, j < 3 → j ≠ k → ∀ g, (V j).ownBlock = some g → w2.heap[g]? = w.heap[g]? := fun j hj hjk g hgj => by
    have hlt := ((h.own j hj).lt hgj).1
    have e1 := p2.block g hlt (fun e => h.apart j k hj hk hjk g hgj e.symm)
    have e2 := hg.block g (Nat.lt_of_lt_of_le hlt p2.size) (fun e => by injection e with e; exact (h.own_ne hj).2 (by rw [hgj, e]))
    exact e2.trans e1
  refine ⟨⟨?_, hm, ?_, ?_, ?_, h.lo⟩, ⟨hg.os.trans p2.os, hg.tape.trans p2.tape, hg.output.trans p2.output, Nat.le_trans p2.size hg.size, ?_, ?_⟩⟩
  · exact ((hg.block b (Nat.lt_of_lt_of_le h.blk.lt p2.size) (fun e => by injection e with e; exact hbm e)).trans b1).trans h.blk
  · intro j hj
    subst hF
    unfold putI updV SS.upd
    by_cases e : j = k
    · simp only [if_pos e]; rfl
    · simp only [if_neg e]; exact h.val j hj
  · intro j hj
    unfold updV SS.upd
    by_cases e : j = k
    · simp only [if_pos e]
      exact p1.grown hg (fun g hg' e' => by injection e' with e'; exact hv' g hg' e')
    · simp only [if_neg e]
      exact (h.own j hj).keep (hfar j hj e)
  · intro i j hi hj hij g hgi hgj
    unfold updV at hgi hgj
    have new : ∀ q, q < 3 → q ≠ k → (V q).ownBlock = some g → v'.ownBlock = some g → False := fun q hq hqk h1 h2 => by
      rcases p3 with p3 | ⟨g2, p3, p4⟩
      · exact h.apart q k hq hk hqk g h1 (p3.symm.trans h2)
      · rw [p3] at h2
        injection h2 with h2
        have := ((h.own q hq).lt h1).1
        omega
    by_cases e1 : i = k
    · rw [if_pos e1] at hgi
      by_cases e2 : j = k
      · exact hij (e1.trans e2.symm)
      · rw [if_neg e2] at hgj
        exact new j hj e2 hgj hgi
    · rw [if_neg e1] at hgi
      by_cases e2 : j = k
      · rw [if_pos e2] at hgj
        exact new i hi e1 hgi hgj
      · rw [if_neg e2] at hgj
        exact h.apart i j hi hj hij g hgi hgj
  · intro g hlt hgb hgm hgv
    exact (hg.block g (Nat.lt_of_lt_of_le hlt p2.size) (fun e => by injection e with e; exact hgm e)).trans (p2.block g hlt (fun e => hgv k hk e.symm))
  · intro j hj g hgj
    unfold updV at hgj
    by_cases e : j = k
    · rw [if_pos e] at hgj
      rcases p3 with p3 | ⟨g2, p3, p4⟩
      · exact .inr ⟨k, hk, p3.symm.trans hgj⟩
      · rw [p3] at hgj
        injection hgj with hgj
        exact .inl (hgj ▸ p4)
    · rw [if_neg e] at hgj
      exact .inr ⟨j, hj, hgj⟩
theorem Chg.of_below {w' : World} (h : Below w.heap.size w w') : Chg w w' b m V V := ⟨h.os, h.tape, h.output, h.size, fun g hg _ _ _ => h.block g hg, fun k hk g hg => .inr ⟨k, hk, hg⟩⟩
theorem Chg.trans {w1 w2 : World} {V1 V2 : Nat → Value} (h : Chg w w1 b m V V1) (k : Chg w1 w2 b m V1 V2) : Chg w w2 b m V V2 := by
  refine ⟨k.os.trans h.os, k.tape.trans h.tape, k.output.trans h.output, Nat.le_trans h.size k.size, fun g hg hb hm hv => ?_, fun j hj g hg => ?_⟩
  · refine (k.block g (Nat.lt_of_lt_of_le hg h.size) hb hm fun q hq e => ?_).trans (h.block g hg hb hm hv)
    rcases h.own q hq g e with h1 | ⟨i, hi, h1⟩
    · omega
    · exact hv i hi h1
  · rcases k.own j hj g hg with h1 | ⟨i, hi, h1⟩
    · exact .inl (Nat.le_trans h.size h1)
    · exact h.own i hi g h1
theorem Spc.len (h : Spc w base b m n F V s) {k : Nat} (hk : k < 3) : (s.S k).length ≤ 100000 := by
  have h1 := (h.good.ris k hk).len (h.good.in_ k hk)
  have h2 := h.good.hc
  omega
theorem Spc.cnt_le (h : Spc w base b m n F V s) {k : Nat} (hk : k < 3) : cnt (s.S k) ≤ 1000000 := by
  have h1 := (h.good.ris k hk).cnt_le (h.good.in_ k hk)
  have h2 := h.good.hc
  omega
end
theorem none_rg {w : World} {base b m n : Nat} {F : Nat → Option Value} {V : Nat → Value} {s : SS} (h : Spc w base b m n F V s) :
    Calls Try.prog 26 #[.pointer (some ⟨b, 0, none⟩)] w fun e w' => e = .returned (.bool false) ∧ w' = w := by
  have c0 : w.cell? ⟨b, 0, none⟩ = some (.int .i64 (s.cells : Int)) := h.mem.blk.cell 0
  have hc := h.good.hc.1
  have t1 : ((s.cells : Int) == 0) = false := by simp; omega
  obtain ⟨C, hC⟩ : ∃ C, C = s.cells := ⟨_, rfl⟩
  rw [← hC] at c0 t1
  clear h hc hC
  go_enter Try.func26, Try.ntmps26
  go_wp2_with fail
  go_ret
  exact ⟨rfl, rfl⟩
set_option maxHeartbeats 1600000 in
theorem free_rg {w : World} {base b m n : Nat} {F : Nat → Option Value} {V : Nat → Value} {s : SS} (h : Spc w base b m n F V s) :
    Calls Try.prog 8 #[.pointer (some ⟨b, 0, none⟩)] w fun e w' => e = .returned (.int .i64 ((cnt (s.S 0) : Int) - (s.kept : Int))) ∧ Below w.heap.size w w' := by
  have c1 : w.cell? ⟨b, 1, none⟩ = some (.int .i64 (s.kept : Int)) := h.mem.blk.cell 1
  have c2 : w.cell? ⟨b, 2, none⟩ = some (.map (some m)) := h.mem.blk.cell 2
  have hl : ∀ q, (Instr.lookup 61 (.map (some m)) (.int .i64 0) false).run Try.prog (w.drewN q) = .ok (.agg #[V 0, .int .i64 (cnt (s.S 0) : Int)]) (w.drewN q) := fun q => (h.mem.drewN q).look (k := 0) (by omega)
  have hn := Lib.hid (none_rg h)
  have hk := h.good.kp
  have hcn := h.cnt_le (k := 0) (by omega)
  obtain ⟨K, hK⟩ : ∃ K, K = s.kept := ⟨_, rfl⟩
  obtain ⟨C, hC⟩ : ∃ C, C = cnt (s.S 0) := ⟨_, rfl⟩
  obtain ⟨A, c, hv, _, _, _, _⟩ := (h.mem.own 0 (by omega)).shape
  obtain ⟨v, hv2⟩ : ∃ v : Value, v = V 0 := ⟨_, rfl⟩
  rw [← hv2] at hv hl
  obtain ⟨n0, hn0⟩ : ∃ n0, n0 = (s.S 0).length := ⟨_, rfl⟩
  rw [← hn0] at hv
  subst hv
  rw [← hK] at c1 hk ⊢
  rw [← hC] at hl
  rw [← hC] at hcn ⊢
  clear h hK hC hv2 hn0
  go_enter Try.func8, Try.ntmps8
  go_wp2_with fail
  refine hn.out.mono ?_
  rintro e w' ⟨rfl, rfl⟩
  have hl1 : (Instr.lookup 61 (.map (some m)) (.int .i64 0) false).run Try.prog w'.drew = .ok (.agg #[.slice A n0 c, .int .i64 (C : Int)]) w'.drew := hl 1
  have hf : (Instr.field 60 (.agg #[.slice A n0 c, .int .i64 (C : Int)]) 1).run Try.prog w'.drew = .ok (.int .i64 (C : Int)) w'.drew := by kernel_rfl
  clear hl
  go_wp2_with fail
  go_region
  go_wp2_with fail
  go_ret
  exact ⟨rfl, (Below.refl _ _).drew⟩
end Sp
end Go.Proofs.Ytpbojhjbjnoihaa
