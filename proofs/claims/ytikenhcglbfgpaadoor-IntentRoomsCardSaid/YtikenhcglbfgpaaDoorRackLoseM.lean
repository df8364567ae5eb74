/-
  'maps.DeleteFunc' as the rack calls it, by a contract. Conditions: the map is one of places and sectors.
-/
import Derived.Test.YtikenhcglbfgpaaDoorRackCrash
import Derived.Maps.RangeWalk
namespace Go.Proofs.YtikenhcglbfgpaaDoor
set_option maxRecDepth 100000
open Go.RowKit
set_option linter.unusedVariables false

theorem box_sector (w : World) (cs : Array Value) : (Instr.box 66 (.agg cs)).run Tryd.prog w = .ok (.pointer (some ⟨w.heap.size, 0, none⟩)) (w.alloc (.cells cs 66)) := by kernel_rfl
theorem box_place (w : World) (cs : Array Value) : (Instr.box 62 (.agg cs)).run Tryd.prog w = .ok (.pointer (some ⟨w.heap.size, 0, none⟩)) (w.alloc (.cells cs 62)) := by kernel_rfl

/-- what is left of the sectors' map: nothing of drive d -/
def wipeF (F : Nat → Nat → Option Value) (d d' a' : Nat) : Option Value := if d' = d then none else F d' a'
def GoneTo (D0 D : DataW Value) (d : Nat) (left : Lit → Bool) : Prop :=
  Maps.IsMap D ∧ ∀ d' a', d' < 4611686018427387904 → a' < 4611686018427387904 → ∀ zd, D.atKey (klit d' a') zd = if d' = d ∧ left (klit d' a') = false then zd else D0.atKey (klit d' a') zd
theorem klit_of {key : Value} {kl : Lit} {i j : Int} (hk : keyOf Tryd.prog 62 key = some kl) (he : key = .agg #[.int .i64 i, .int .i64 j]) {d' a' : Nat} (hd : d' < 4611686018427387904) (ha : a' < 4611686018427387904) (h : klit d' a' = kl) : i = (d' : Int) ∧ j = (a' : Int) := by
  have h1 := key_ok hd ha
  rw [h] at h1
  have h2 := keyed.inj hk h1
  rw [he] at h2
  unfold pkey at h2
  simp at h2
  exact h2
theorem GoneTo.keep {D0 D : DataW Value} {d : Nat} {left : Lit → Bool} (h : GoneTo D0 D d left) {key : Value} {kl : Lit} {i j : Int} (hk : keyOf Tryd.prog 62 key = some kl) (he : key = .agg #[.int .i64 i, .int .i64 j]) (hi : i ≠ (d : Int)) :
    GoneTo D0 D d (fun z => left z && !z.sameKey kl) := by
  refine ⟨h.1, fun d' a' hd ha zd => ?_⟩
  rw [h.2 d' a' hd ha zd]
  by_cases e : klit d' a' = kl
  · have h2 := klit_of hk he hd ha e
    have h3 : ¬ d' = d := fun x => hi (by rw [h2.1, x])
    rw [if_neg (fun x => h3 x.1), if_neg (fun x => h3 x.1)]
  · have h4 : (klit d' a').sameKey kl = false := Maps.sameKey_ne e
    simp [h4]
theorem GoneTo.strike {D0 D : DataW Value} {d : Nat} {left : Lit → Bool} (h : GoneTo D0 D d left) {key : Value} {kl : Lit} {i j : Int} (hk : keyOf Tryd.prog 62 key = some kl) (he : key = .agg #[.int .i64 i, .int .i64 j]) (hi : i = (d : Int)) :
    GoneTo D0 (D.del kl) d (fun z => left z && !z.sameKey kl) := by
  refine ⟨h.1.del kl, fun d' a' hd ha zd => ?_⟩
  by_cases e : klit d' a' = kl
  · have h2 := klit_of hk he hd ha e
    have h3 : d' = d := by omega
    have h4 : kl.sameKey kl = true := WideAt.sameKey_self (keyed.key hk)
    rw [e, if_pos ⟨h3, by simp [h4]⟩, Maps.atKey_del_same]
  · have h4 : (klit d' a').sameKey kl = false := Maps.sameKey_ne e
    rw [Maps.atKey_del_other e, h.2 d' a' hd ha zd]
    simp [h4]

theorem grown_on {w a c : World} {b r : Nat} (h : w.grownBy a (some b)) (k : a.grownBy c (some r)) (hr : w.heap.size ≤ r) : w.grownBy c (some b) :=
  ⟨k.os.trans h.os, k.tape.trans h.tape, k.output.trans h.output, Nat.le_trans h.size k.size, fun i hi hne => (k.block i (Nat.lt_of_lt_of_le hi h.size) (fun e => by injection e with e; omega)).trans (h.block i hi hne)⟩
theorem grown_new {w a c : World} {b : Nat} (h : w.grownBy a (some b)) (k : Below a.heap.size a c) : w.grownBy c (some b) :=
  ⟨k.os.trans h.os, k.tape.trans h.tape, k.output.trans h.output, Nat.le_trans h.size k.size, fun i hi hne => (k.block i (Nat.lt_of_lt_of_le hi h.size)).trans (h.block i hi hne)⟩
theorem grown_trans {w a c : World} {b : Nat} (h : w.grownBy a (some b)) (k : a.grownBy c (some b)) : w.grownBy c (some b) :=
  ⟨k.os.trans h.os, k.tape.trans h.tape, k.output.trans h.output, Nat.le_trans h.size k.size, fun i hi hne => (k.block i (Nat.lt_of_lt_of_le hi h.size) hne).trans (h.block i hi hne)⟩
theorem ranges_new {w w' : World} {okv : Value → Bool} {b r n cnt : Nat} {D : DataW Value} {left : Lit → Bool} (h : w.ranges Tryd.prog 62 (RVp okv) b r n D left cnt) (k : Below w.heap.size w w') : w'.ranges Tryd.prog 62 (RVp okv) b r n D left cnt := by
  obtain ⟨es, clock, since, seen, c0, e1, e2, e3, e4, e5, e6⟩ := h
  exact ⟨es, clock, since, seen, c0, (k.block b (Array.getElem?_eq_some_iff.1 e1).1).trans e1, e2, e3, e4, (k.block r (Array.getElem?_eq_some_iff.1 e5).1).trans e5, e6⟩
theorem ranges_drew {w : World} {okv : Value → Bool} {b r n cnt : Nat} {D : DataW Value} {left : Lit → Bool} (h : w.ranges Tryd.prog 62 (RVp okv) b r n D left cnt) (k : Nat) : (w.drewN k).ranges Tryd.prog 62 (RVp okv) b r n D left cnt := h

end Go.Proofs.YtikenhcglbfgpaaDoor
namespace Go.Proofs.YtikenhcglbfgpaaDoor
set_option maxRecDepth 100000
open Go.RowKit
set_option linter.unusedVariables false

/-- those that wait for other drives than d -/
def keptL (W : Nat → Wt) (d : Nat) : Nat → List Wt
  | 0 => []
  | k + 1 => if (W k).d = d then keptL W d k else keptL W d k ++ [W k]
theorem keptL_le (W : Nat → Wt) (d : Nat) : ∀ k, (keptL W d k).length ≤ k
  | 0 => Nat.le_refl _
  | k + 1 => by
    unfold keptL
    have := keptL_le W d k
    split
    · omega
    · simp; omega
theorem keptL_mem {W : Nat → Wt} {d : Nat} {v : Wt} : ∀ {k}, v ∈ keptL W d k → ∃ i, i < k ∧ W i = v ∧ v.d ≠ d
  | 0, h => by cases h
  | k + 1, h => by
    unfold keptL at h
    split at h
    · obtain ⟨i, h1, h2⟩ := keptL_mem h
      exact ⟨i, by omega, h2⟩
    · rename_i hne
      rw [List.mem_append] at h
      rcases h with h | h
      · obtain ⟨i, h1, h2⟩ := keptL_mem h
        exact ⟨i, by omega, h2⟩
      · simp at h
        exact ⟨k, by omega, h.symm, by rw [h]; exact hne⟩
def flatL (l : List Wt) : List Value := l.flatMap fun v => (waitA v).toList
theorem flatL_snoc (l : List Wt) (v : Wt) : flatL (l ++ [v]) = flatL l ++ (waitA v).toList := by simp [flatL]
theorem flat_succ (W : Nat → Wt) (n : Nat) : flat W (n + 1) = flat W n ++ (waitA (W n)).toList := rfl
theorem flat_take (l : List Wt) (z : Wt) (k : Nat) (h : k ≤ l.length) : flat (fun i => l.getD i z) k = flatL (l.take k) := by
  induction k with
  | zero => rw [List.take_zero]; rfl
  | succ k ih =>
    have hk : k < l.length := by omega
    have e : l.getD k z = l[k] := by simp [List.getD_eq_getElem?_getD, hk]
    rw [flat_succ, ih (by omega), List.take_succ_eq_append_getElem hk, flatL_snoc, e]
theorem flat_list (l : List Wt) (z : Wt) : flat (fun i => l.getD i z) l.length = flatL l := by rw [flat_take l z l.length (Nat.le_refl _), List.take_length]

/-- behind the loss of all that drive d holds -/
def RS.wiped (s : RS) (d : Nat) : RS :=
  { s with nw := (keptL s.W d s.nw).length, W := fun i => (keptL s.W d s.nw).getD i ⟨0, 0, zeros⟩, last := fun d' a' => if d' = d then zeros else s.last d' a' }
theorem RS.ok.wiped {s : RS} (h : s.ok) (d : Nat) : (s.wiped d).ok := by
  refine ⟨h.nd1, h.nd2, h.ns1, h.ns2, h.left, h.cost, fun i hi => ?_, fun d' a' j hj => ?_⟩
  · have hi' : i < (keptL s.W d s.nw).length := hi
    have e : (s.wiped d).W i = (keptL s.W d s.nw)[i] := by
      show (keptL s.W d s.nw).getD i ⟨0, 0, zeros⟩ = _
      simp [List.getD_eq_getElem?_getD, hi']
    rw [e]
    obtain ⟨k, h1, h2, _⟩ := keptL_mem (List.getElem_mem hi')
    rw [← h2]
    exact h.wp k h1
  · show (if d' = d then zeros else s.last d' a') j < 256
    split
    · exact Nat.succ_pos _
    · exact h.lp d' a' j hj
/-- what lasts of other drives -/
def RS.cleared (s : RS) (d : Nat) : RS := { s with last := fun d' a' => if d' = d then zeros else s.last d' a' }
theorem RackK.cleared {B : Nat} {w w' : World} {r m1 m2 k : Nat} {v : Value} {s : RS} (h : RackK B w r m1 m2 v s k) (d : Nat) {n : Nat} {F : Nat → Nat → Option Value} (f1 : n + s.nw ≤ s.cost)
    (f3 : ∀ d a, d < 4611686018427387904 → a < 4611686018427387904 → (F d a).getD (.agg (secA zeros)) = .agg (secA (s.last d a))) (hm : MapS w' m1 n (wipeF F d)) (hg : w.grownBy w' (some m1)) : RackK B w' r m1 m2 v (s.cleared d) k := by
  refine ⟨h.blk.grown hg (fun e => h.ne1 (by injection e with e; exact e.symm)), h.hr, h.h1, h.h2, h.ne, ⟨n, _, f1, hm, fun d' a' hd ha => ?_⟩, h.newest.grown hg (fun e => h.ne (by injection e with e; exact e.symm)), h.row.1, ?_⟩
  · show _ = Value.agg (secA (if d' = d then zeros else s.last d' a'))
    unfold wipeF
    by_cases e : d' = d
    · rw [if_pos e, if_pos e]
      rfl
    · rw [if_neg e, if_neg e]
      exact f3 d' a' hd ha
  · rcases h.row.2 with e | ⟨g, cap, cur, rfl, g1, g2, g3⟩
    · exact .inl e
    · exact .inr ⟨g, cap, cur, rfl, g1, (hg.block g (Array.getElem?_eq_some_iff.1 g2).1 (fun e => h.row_ne1 (by rw [← e]; rfl))).trans g2, g3⟩
theorem wpList_append_wait {w : World} {ops : Array Oper} {rest : List Oper} {o : Oper} {a : Act} {Q : Exit → Act → World → Prop} (hgd : o.guard = none) (s x : Operand) (ho : o.op = .call { callee := .builtin .append, args := #[s, x], argTypes := #[45, 45] })
    (B : Nat) (v : Value) (n : Nat) (xs : List Value) (hs : a.eval s = v) (hown : w.ownsRow B 70 130 v n xs) (g : Nat) (D A : Int) (X : Nat → Nat) (hx : a.eval x = .slice (some ⟨g, 0, none⟩) 1 1) (hb : Blk w g 70 (waitI D A X))
    (hn : n ≤ 1000000) (hB : B ≤ w.heap.size)
    (h : ∀ g' cap w', w'.ownsRow B 70 130 (.slice (some ⟨g', 0, none⟩) (n + 1) cap) (n + 1) (xs ++ (waitI D A X).toList) → w.grownBy w' v.ownBlock → wpList Tryd.prog ops Q rest (a.put o.dst (.slice (some ⟨g', 0, none⟩) (n + 1) cap)) w') : wpList Tryd.prog ops Q (o :: rest) a w :=
  wpList_plain hgd fun _ hK => wp_append_wait s x ho B v n xs hs hown g D A X hx hb hn hB fun g' cap w' h1 h2 _ _ => hK _ _ (h g' cap w' h1 h2)
theorem wpList_buildSliceX {w w' : World} {ops : Array Oper} {rest : List Oper} {op : Oper} {a : Act} {Q : Exit → Act → World → Prop} (hgd : op.guard = none) (ty : TypeId) (n i : Nat) (x : Operand) (ho : op.op = .buildSlice ty n #[(i, x)]) (u v : Value) (hx : a.eval x = u)
    (hl : (Instr.buildSlice ty n #[(i, u)]).run Tryd.prog w = .ok v w') (h : wpList Tryd.prog ops Q rest (a.put op.dst v) w') : wpList Tryd.prog ops Q (op :: rest) a w := by
  refine wpList_plain hgd fun K hK => ?_
  unfold Oper.wp
  rw [exec_buildSlice1 ho hx hl]
  exact hK _ _ h
theorem below_row {B : Nat} {a w w' : World} {v : Value} {n c : Nat} {xs : List Value} (h : Below B a w) (hr : w.ownsRow B 70 c v n xs) (hB : B ≤ w.heap.size) (hg : w.grownBy w' v.ownBlock) : Below B a w' :=
  h.trans ⟨hg.os, hg.tape, hg.output, hg.size, fun k hk => hg.block k (Nat.lt_of_lt_of_le hk hB) (fun e => by
    obtain ⟨h1, _⟩ := own_blk hr e.symm
    omega)⟩
theorem own_new {w w' : World} {B n c : Nat} {v : Value} {xs : List Value} (h : w.ownsRow B 70 c v n xs) (hb : Below w.heap.size w w') : w'.ownsRow B 70 c v n xs := by
  refine ⟨h.1, ?_⟩
  rcases h.2 with e | ⟨g, cap, cur, e, k1, k2, k3⟩
  · exact .inl e
  · exact .inr ⟨g, cap, cur, e, k1, (hb.block g (Array.getElem?_eq_some_iff.1 k2).1).trans k2, k3⟩
theorem box_int (w : World) (v : Int) : (Instr.box 3 (.int .i64 v)).run Tryd.prog w = .ok (.pointer (some ⟨w.heap.size, 0, none⟩)) (w.alloc (.cells #[.int .i64 v] 3)) := by kernel_rfl

/-- drive d gone, or there -/
def RS.setGone (s : RS) (d : Nat) (b : Bool) : RS := { s with gone := fun i => if i = d then b else s.gone i }
theorem RackK.setGone {B : Nat} {w : World} {r m1 m2 k : Nat} {v : Value} {s : RS} (h : RackK B w r m1 m2 v s k) {d : Nat} (hd : d < 16) (b : Bool) : RackK B (w.setCell ⟨r, 5 + d, none⟩ (.bool b)) r m1 m2 v (s.setGone d b) k := by
  refine h.put (i := 5 + d) (by omega) ?_ (fun j hj hne => ?_) rfl rfl rfl rfl
  · unfold rackCell
    rw [if_neg (by omega), if_neg (by omega), if_neg (by omega), if_neg (by omega), if_neg (by omega), if_pos (by omega)]
    show Value.bool (if 5 + d - 5 = d then b else _) = _
    rw [if_pos (by omega)]
  · by_cases h1 : 5 ≤ j ∧ j < 21
    · unfold rackCell
      rw [if_neg (by omega), if_neg (by omega), if_neg (by omega), if_neg (by omega), if_neg (by omega), if_pos (by omega)]
      rw [if_neg (by omega), if_neg (by omega), if_neg (by omega), if_neg (by omega), if_neg (by omega), if_pos (by omega)]
      show Value.bool (if j - 5 = d then b else _) = _
      rw [if_neg (by omega)]
    · unfold rackCell
      by_cases h2 : j < 5
      · rcases (by omega : j = 0 ∨ j = 1 ∨ j = 2 ∨ j = 3 ∨ j = 4) with e | e | e | e | e <;> subst e <;> rfl
      · rcases (by omega : j = 21 ∨ j = 22 ∨ j = 23) with e | e | e <;> subst e <;> rfl
theorem RS.ok.setGone {s : RS} (h : s.ok) (d : Nat) (b : Bool) : (s.setGone d b).ok := ⟨h.nd1, h.nd2, h.ns1, h.ns2, h.left, h.cost, h.wp, h.lp⟩
def RS.lost (s : RS) (d : Nat) : RS := (s.wiped d).setGone d true
def RS.anew (s : RS) (d : Nat) : RS := (s.wiped d).setGone d false
theorem isD_nat {s : RS} {d : Nat} : s.isD (d : Int) = decide (d < s.nd) := by
  unfold RS.isD
  simp
end Go.Proofs.YtikenhcglbfgpaaDoor
