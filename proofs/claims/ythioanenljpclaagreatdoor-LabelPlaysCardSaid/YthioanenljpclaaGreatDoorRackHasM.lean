/-
  A rack in memory: its cells, its two maps, the row of what waits; and what else a call of the rack leaves as it is. No conditions beyond those that each theorem types.
-/
import Derived.Test.YthioanenljpclaaGreatDoorRackMapM
import Derived.StillTail
import Derived.Deep.QuietTactic
import Derived.Lib.Hide
import Derived.BigQuiet
namespace Go.Proofs.YthioanenljpclaaGreatDoor
set_option maxRecDepth 100000
open Go.RowKit
set_option linter.unusedVariables false

/-- A write that waits: where, and its bytes. -/
structure Wt where
  d : Nat
  a : Nat
  x : Nat → Nat
/-- A rack: its sizes, what lasts, what waits, which drives are lost, the power; 'cost': no map has more entries. -/
structure RS where
  nd : Nat
  ns : Nat
  last : Nat → Nat → Nat → Nat
  nw : Nat
  W : Nat → Wt
  gone : Nat → Bool
  off : Bool
  armed : Bool
  left : Nat
  cost : Nat
def iv (i : Nat) : Value := .int .i64 (i : Int)
def zeros (_ : Nat) : Nat := 0
/-- the last of the first k that waits for a place -/
def newIn (W : Nat → Wt) (d a : Nat) : Nat → Option Nat
  | 0 => none
  | k + 1 => if (W k).d = d ∧ (W k).a = a then some k else newIn W d a k
theorem newIn_lt {W : Nat → Wt} {d a : Nat} : ∀ {k i : Nat}, newIn W d a k = some i → i < k ∧ (W i).d = d ∧ (W i).a = a
  | 0, i, h => by cases h
  | k + 1, i, h => by
    unfold newIn at h
    split at h
    · rename_i hp
      injection h with h
      subst h
      exact ⟨Nat.lt_succ_self _, hp⟩
    · have := newIn_lt h
      exact ⟨by omega, this.2⟩
theorem newIn_congr {W V : Nat → Wt} {d a : Nat} : ∀ {k : Nat}, (∀ i, i < k → (W i).d = (V i).d ∧ (W i).a = (V i).a) → newIn W d a k = newIn V d a k
  | 0, _ => rfl
  | k + 1, h => by
    unfold newIn
    rw [(h k (by omega)).1, (h k (by omega)).2, newIn_congr fun i hi => h i (by omega)]
/-- what a place holds -/
def RS.holds (s : RS) (d a : Nat) : Nat → Nat :=
  match newIn s.W d a s.nw with
  | some i => (s.W i).x
  | none => s.last d a

def secA (x : Nat → Nat) : Array Value := rowArr 128 x
def waitA (v : Wt) : Array Value := #[.int .i64 (v.d : Int), .int .i64 (v.a : Int)] ++ secA v.x
theorem waitA_size (v : Wt) : (waitA v).size = 130 := by simp [waitA, secA, rowArr_size]
theorem secA_size (x : Nat → Nat) : (secA x).size = 128 := rowArr_size _ _
theorem secA_one (x : Nat → Nat) : (secA x).all (·.oneCell') = true := rowArr_one _ _
theorem waitA_one (v : Wt) : (waitA v).all (·.oneCell') = true := by
  unfold waitA
  rw [Array.all_append, secA_one]
  simp [Value.oneCell']
def rackCell (s : RS) (m1 : Nat) (v : Value) (m2 i : Nat) : Value :=
  if i = 0 then .int .i64 (s.nd : Int) else if i = 1 then .int .i64 (s.ns : Int) else if i = 2 then .map (some m1) else if i = 3 then v else if i = 4 then .map (some m2)
  else if i < 21 then .bool (s.gone (i - 5)) else if i = 21 then .bool s.off else if i = 22 then .bool s.armed else .int .i64 (s.left : Int)
def rackA (s : RS) (m1 : Nat) (v : Value) (m2 : Nat) : Array Value := Array.ofFn (n := 24) fun i => rackCell s m1 v m2 i.val
theorem rackA_get (s : RS) (m1 : Nat) (v : Value) (m2 : Nat) {i : Nat} (h : i < 24) : (rackA s m1 v m2)[i]? = some (rackCell s m1 v m2 i) := by simp [rackA, h]
theorem rackA_set {s s' : RS} {m1 m1' m2 m2' : Nat} {v v' u : Value} {i : Nat} (hi : i < 24) (h : rackCell s' m1' v' m2' i = u) (ho : ∀ j, j < 24 → j ≠ i → rackCell s' m1' v' m2' j = rackCell s m1 v m2 j) :
    (rackA s m1 v m2).setIfInBounds i u = rackA s' m1' v' m2' := by
  have hs : ∀ (s : RS) m1 v m2, (rackA s m1 v m2).size = 24 := fun _ _ _ _ => by simp [rackA]
  apply Array.ext_getElem?
  intro j
  rw [Array.getElem?_setIfInBounds, hs]
  by_cases hj : j < 24
  · rw [rackA_get _ _ _ _ hj, rackA_get _ _ _ _ hj]
    by_cases e : i = j
    · subst e; rw [if_pos rfl, if_pos hi, h]
    · rw [if_neg e, ho j hj (fun e' => e e'.symm)]
  · rw [if_neg (by omega), Array.getElem?_eq_none (by rw [hs]; omega), Array.getElem?_eq_none (by rw [hs]; omega)]

/-- the cells of the first n writes that wait -/
def flat (W : Nat → Wt) : Nat → List Value
  | 0 => []
  | n + 1 => flat W n ++ (waitA (W n)).toList
theorem flat_length (W : Nat → Wt) : ∀ n, (flat W n).length = n * 130
  | 0 => rfl
  | n + 1 => by
    unfold flat
    rw [List.length_append, flat_length W n, Array.length_toList, waitA_size]
    omega
theorem flat_get (W : Nat → Wt) {j : Nat} (hj : j < 130) : ∀ {n i : Nat}, i < n → (flat W n)[i * 130 + j]? = (waitA (W i))[j]?
  | 0, i, h => absurd h (Nat.not_lt_zero _)
  | n + 1, i, h => by
    unfold flat
    by_cases e : i = n
    · subst e
      rw [List.getElem?_append_right (by rw [flat_length]; omega), flat_length, show i * 130 + j - i * 130 = j by omega, Array.getElem?_toList]
    · rw [List.getElem?_append_left (by rw [flat_length]; omega)]
      exact flat_get W hj (by omega)
theorem flat_congr {W V : Nat → Wt} : ∀ {n : Nat}, (∀ i, i < n → W i = V i) → flat W n = flat V n
  | 0, _ => rfl
  | n + 1, h => by
    unfold flat
    rw [flat_congr fun i hi => h i (by omega), h n (by omega)]

theorem grown_set (w : World) (g i : Nat) (u : Value) : w.grownBy (w.setCell ⟨g, i, none⟩ u) (some g) :=
  ⟨rfl, rfl, rfl, by simp [World.setCell], fun k hk hne => Below.heap_setCell w ⟨g, i, none⟩ u k (fun e => hne (by rw [e]))⟩
/-- What a rack is made of. -/
def rackObj : Obj → Bool
  | .map es _ => es.all fun e => aggKey e.key
  | .cells _ t _ => t == 68 || t == 89
  | _ => false
/-- Whatever is no part of a rack is as it was; below B all is. -/
structure Keep (B : Nat) (w w' : World) : Prop where
  below : Below B w w'
  kept : ∀ (k : Nat) (o : Obj), w.heap[k]? = some o → rackObj o = false → w'.heap[k]? = some o
section
variable {B : Nat} {a w w' : World}
theorem Keep.refl (B : Nat) (w : World) : Keep B w w := ⟨Below.refl B w, fun _ _ h _ => h⟩
theorem Keep.trans (h : Keep B a w) (k : Keep B w w') : Keep B a w' := ⟨h.below.trans k.below, fun i o h1 h2 => k.kept i o (h.kept i o h1 h2) h2⟩
theorem Keep.drew (h : Keep B a w) : Keep B a w.drew := ⟨h.below.drew, h.kept⟩
theorem Keep.drewN (h : Keep B a w) (n : Nat) : Keep B a (w.drewN n) := ⟨⟨h.below.os, h.below.tape, h.below.output, h.below.size, h.below.block⟩, h.kept⟩
theorem Keep.alloc (h : Keep B a w) (hB : B ≤ w.heap.size) (o : Obj) : Keep B a (w.alloc o) :=
  ⟨h.below.alloc hB o, fun i x h1 h2 => by
    have h3 := h.kept i x h1 h2
    exact (Below.heap_alloc w o i (Array.getElem?_eq_some_iff.1 h3).1).trans h3⟩
theorem Keep.block (h : Keep B a w) {g : Nat} {t : TypeId} {cs : Array Value} (hb : Blk a g t cs) (ht : (t == 68 || t == 89) = false) : Blk w g t cs := h.kept g _ hb ht
theorem Keep.of_grown (h : Keep B a w) {g : Nat} (hg : w.grownBy w' (some g)) (hB : B ≤ g) (hs : B ≤ w.heap.size) (ho : ∀ o, w.heap[g]? = some o → rackObj o = true) : Keep B a w' :=
  ⟨h.below.trans ⟨hg.os, hg.tape, hg.output, hg.size, fun k hk => hg.block k (by omega) (fun e => by injection e; omega)⟩, fun i x h1 h2 => by
    have h3 := h.kept i x h1 h2
    refine (hg.block i (Array.getElem?_eq_some_iff.1 h3).1 (fun e => ?_)).trans h3
    injection e with e
    subst e
    rw [ho _ h3] at h2
    cases h2⟩
end

/-- a sector's value -/
def isSec (v : Value) : Bool :=
  match v with
  | .agg cs => cs.size == 128 && cs.all (·.oneCell')
  | _ => false
theorem isSec_agg {cs : Array Value} (h1 : cs.size = 128) (h2 : cs.all (·.oneCell') = true) : isSec (.agg cs) = true := by
  show (cs.size == 128 && cs.all (·.oneCell')) = true
  rw [h2, h1]
  rfl
theorem isSec_sec (x : Nat → Nat) : isSec (.agg (secA x)) = true := isSec_agg (secA_size x) (secA_one x)
theorem isSec_inv {v : Value} (h : isSec v = true) : ∃ cs : Array Value, v = .agg cs ∧ cs.size = 128 ∧ cs.all (·.oneCell') = true := by
  cases v with
  | agg cs =>
    have h1 : (cs.size == 128 && cs.all (·.oneCell')) = true := h
    rw [Bool.and_eq_true] at h1
    exact ⟨cs, rfl, by simpa using h1.1, h1.2⟩
  | _ => cases h
abbrev MapS := MapFp isSec
/-- A rack at block r: its maps m1 and m2, its row of waiting writes v; the second map knows the first k of them. -/
structure RackK (B : Nat) (w : World) (r m1 m2 : Nat) (v : Value) (s : RS) (k : Nat) : Prop where
  blk : Blk w r 68 (rackA s m1 v m2)
  hr : B ≤ r
  h1 : B ≤ m1
  h2 : B ≤ m2
  ne : m1 ≠ m2
  last : ∃ n F, n + s.nw ≤ s.cost ∧ MapS w m1 n F ∧ ∀ d a, d < 4611686018427387904 → a < 4611686018427387904 → (F d a).getD (.agg (secA zeros)) = .agg (secA (s.last d a))
  newest : MapF w m2 k (fun d a => (newIn s.W d a k).map iv)
  row : w.ownsRow B 89 130 v s.nw (flat s.W s.nw)
/-- A rack, its second map up to date. -/
abbrev RackW (B : Nat) (w : World) (r m1 m2 : Nat) (v : Value) (s : RS) : Prop := RackK B w r m1 m2 v s s.nw
structure RS.ok (s : RS) : Prop where
  nd1 : 1 ≤ s.nd
  nd2 : s.nd ≤ 16
  ns1 : 1 ≤ s.ns
  ns2 : s.ns ≤ 2000
  left : s.left ≤ 9223372036854775807
  cost : s.cost ≤ 1000000
  wp : ∀ i, i < s.nw → (s.W i).d < s.nd ∧ (s.W i).a < s.ns ∧ ∀ j, j < 128 → (s.W i).x j < 256
  lp : ∀ d a j, j < 128 → s.last d a j < 256
/-- A rack. -/
def RackAt (B : Nat) (w : World) (r : Nat) (s : RS) : Prop := s.ok ∧ ∃ m1 m2 v, RackW B w r m1 m2 v s

section
variable {B : Nat} {w w' : World} {r m1 m2 : Nat} {v : Value} {s : RS} {k : Nat}
theorem RackK.nw_le (h : RackK B w r m1 m2 v s k) : s.nw ≤ s.cost := by obtain ⟨n, F, h1, _⟩ := h.last; omega
theorem RackK.cell (h : RackK B w r m1 m2 v s k) {i : Nat} (hi : i < 24) : w.cell? ⟨r, i, none⟩ = some (rackCell s m1 v m2 i) := (h.blk.cell i).trans (rackA_get _ _ _ _ hi)
theorem RackK.c0 (h : RackK B w r m1 m2 v s k) : w.cell? ⟨r, 0, none⟩ = some (.int .i64 (s.nd : Int)) := h.cell (by omega)
theorem RackK.c1 (h : RackK B w r m1 m2 v s k) : w.cell? ⟨r, 1, none⟩ = some (.int .i64 (s.ns : Int)) := h.cell (by omega)
theorem RackK.c2 (h : RackK B w r m1 m2 v s k) : w.cell? ⟨r, 2, none⟩ = some (.map (some m1)) := h.cell (by omega)
theorem RackK.c3 (h : RackK B w r m1 m2 v s k) : w.cell? ⟨r, 3, none⟩ = some v := h.cell (by omega)
theorem RackK.c4 (h : RackK B w r m1 m2 v s k) : w.cell? ⟨r, 4, none⟩ = some (.map (some m2)) := h.cell (by omega)
theorem RackK.cg (h : RackK B w r m1 m2 v s k) {d : Nat} (hd : d < 16) : w.cell? ⟨r, 5 + d, none⟩ = some (.bool (s.gone d)) := by
  refine (h.cell (by omega)).trans ?_
  unfold rackCell
  rw [if_neg (by omega), if_neg (by omega), if_neg (by omega), if_neg (by omega), if_neg (by omega), if_pos (by omega), show 5 + d - 5 = d by omega]
theorem RackK.c21 (h : RackK B w r m1 m2 v s k) : w.cell? ⟨r, 21, none⟩ = some (.bool s.off) := h.cell (by omega)
theorem RackK.c22 (h : RackK B w r m1 m2 v s k) : w.cell? ⟨r, 22, none⟩ = some (.bool s.armed) := h.cell (by omega)
theorem RackK.c23 (h : RackK B w r m1 m2 v s k) : w.cell? ⟨r, 23, none⟩ = some (.int .i64 (s.left : Int)) := h.cell (by omega)
theorem RackK.frozen (h : RackK B w r m1 m2 v s k) (i : Nat) : w.frozen? ⟨r, i, none⟩ = false := h.blk.frozen i
theorem RackK.le (h : RackK B w r m1 m2 v s k) : B ≤ w.heap.size := Nat.le_trans h.hr (Nat.le_of_lt h.blk.lt)
/-- its four blocks -/
theorem RackK.ne1 (h : RackK B w r m1 m2 v s k) : m1 ≠ r := by obtain ⟨n, F, _, h1, _⟩ := h.last; exact h1.ne_blk h.blk
theorem RackK.ne2 (h : RackK B w r m1 m2 v s k) : m2 ≠ r := h.newest.ne_blk h.blk
theorem own_blk {e : TypeId} {n c : Nat} {xs : List Value} {g : Nat} (h : w.ownsRow B e c v n xs) (hv : v.ownBlock = some g) : B ≤ g ∧ ∃ cs, Blk w g e cs := by
  rcases h.2 with ⟨rfl, _⟩ | ⟨g', cap, cur, rfl, h1, h2, _⟩
  · cases hv
  · injection hv with hv
    have hv : g' = g := hv
    subst hv
    exact ⟨h1, cur, h2⟩
theorem RackK.row_ne (h : RackK B w r m1 m2 v s k) : v.ownBlock ≠ some r := fun e => by
  obtain ⟨_, cs, hb⟩ := own_blk h.row e
  exact Blk.ne_ hb h.blk (by decide) rfl
theorem RackK.row_ne2 (h : RackK B w r m1 m2 v s k) : v.ownBlock ≠ some m2 := fun e => by
  obtain ⟨_, cs, hb⟩ := own_blk h.row e
  exact h.newest.ne_blk hb rfl
theorem RackK.row_ne1 (h : RackK B w r m1 m2 v s k) : v.ownBlock ≠ some m1 := fun e => by
  obtain ⟨_, cs, hb⟩ := own_blk h.row e
  obtain ⟨n, F, _, h1, _⟩ := h.last
  exact h1.ne_blk hb rfl
/-- any world in which its four blocks are as they were -/
theorem RackK.move (h : RackK B w r m1 m2 v s k) (hb : ∀ i, i < w.heap.size → i = r ∨ i = m1 ∨ i = m2 ∨ v.ownBlock = some i → w'.heap[i]? = w.heap[i]?) (hz : w.heap.size ≤ w'.heap.size) : RackK B w' r m1 m2 v s k := by
  obtain ⟨n, F, e1, e2, e3⟩ := h.last
  refine ⟨(hb r h.blk.lt (.inl rfl)).trans h.blk, h.hr, h.h1, h.h2, h.ne, ⟨n, F, e1, e2.block (hb m1 e2.lt (.inr (.inl rfl))), e3⟩, h.newest.block (hb m2 h.newest.lt (.inr (.inr (.inl rfl)))), ?_⟩
  refine ⟨h.row.1, ?_⟩
  rcases h.row.2 with e | ⟨g, cap, cur, rfl, f1, f2, f3⟩
  · exact .inl e
  · exact .inr ⟨g, cap, cur, rfl, f1, (hb g (Array.getElem?_eq_some_iff.1 f2).1 (.inr (.inr (.inr rfl)))).trans f2, f3⟩
theorem RackK.drew (h : RackK B w r m1 m2 v s k) : RackK B w.drew r m1 m2 v s k := h.move (fun _ _ _ => rfl) (Nat.le_refl _)
theorem RackK.drewN (h : RackK B w r m1 m2 v s k) (n : Nat) : RackK B (w.drewN n) r m1 m2 v s k := h.move (fun _ _ _ => rfl) (Nat.le_refl _)
theorem RackK.alloc (h : RackK B w r m1 m2 v s k) (o : Obj) : RackK B (w.alloc o) r m1 m2 v s k := h.move (fun k hk _ => Below.heap_alloc w o k hk) (by simp)
theorem RackK.far (h : RackK B w r m1 m2 v s k) {p : Addr} {x : Value} {g : Nat} {t : TypeId} {cs : Array Value} (hg : Blk w g t cs) (hp : p.block = g) (ht : (t == 68 || t == 89) = false) : RackK B (w.setCell p x) r m1 m2 v s k := by
  refine h.move (fun k hk hor => Below.heap_setCell w p x k ?_) (by simp [World.setCell])
  rintro rfl
  subst hp
  have t1 : t ≠ 68 := by rintro rfl; simp at ht
  have t2 : t ≠ 89 := by rintro rfl; simp at ht
  rcases hor with e | e | e | e
  · exact Blk.ne_ hg h.blk t1 e
  · obtain ⟨n, F, _, h1, _⟩ := h.last
    exact h1.ne_blk hg e.symm
  · exact h.newest.ne_blk hg e.symm
  · obtain ⟨_, cs', hb⟩ := own_blk h.row e
    exact Blk.ne_ hg hb t2 rfl
end
section
variable {B : Nat} {w w' : World} {r : Nat} {s : RS}
theorem RackAt.drew (h : RackAt B w r s) : RackAt B w.drew r s := by obtain ⟨h0, m1, m2, v, h⟩ := h; exact ⟨h0, m1, m2, v, h.drew⟩
theorem RackAt.drewN (h : RackAt B w r s) (n : Nat) : RackAt B (w.drewN n) r s := by obtain ⟨h0, m1, m2, v, h⟩ := h; exact ⟨h0, m1, m2, v, h.drewN n⟩
theorem RackAt.alloc (h : RackAt B w r s) (o : Obj) : RackAt B (w.alloc o) r s := by obtain ⟨h0, m1, m2, v, h⟩ := h; exact ⟨h0, m1, m2, v, h.alloc o⟩
theorem RackAt.far (h : RackAt B w r s) {p : Addr} {x : Value} {g : Nat} {t : TypeId} {cs : Array Value} (hg : Blk w g t cs) (hp : p.block = g) (ht : (t == 68 || t == 89) = false) : RackAt B (w.setCell p x) r s := by
  obtain ⟨h0, m1, m2, v, h⟩ := h; exact ⟨h0, m1, m2, v, h.far hg hp ht⟩
theorem RackAt.le (h : RackAt B w r s) : B ≤ w.heap.size := by obtain ⟨h0, m1, m2, v, h⟩ := h; exact h.le
theorem RackAt.block (h : RackAt B w r s) : B ≤ r := by obtain ⟨h0, m1, m2, v, h⟩ := h; exact h.hr
end
section
variable {B : Nat} {a w w' : World} {r m1 m2 : Nat} {v : Value} {s s' : RS} {k : Nat}
theorem Keep.setRack (h : Keep B a w) {cs : Array Value} (hb : Blk w r 68 cs) (hB : B ≤ r) (i : Nat) (u : Value) : Keep B a (w.setCell ⟨r, i, none⟩ u) :=
  ⟨h.below.setCell (p := ⟨r, i, none⟩) hB u, fun k o h1 h2 => by
    have h3 := h.kept k o h1 h2
    refine (Below.heap_setCell w ⟨r, i, none⟩ u k ?_).trans h3
    rintro rfl
    unfold Blk at hb
    rw [hb] at h3
    injection h3 with h3
    subst h3
    simp [rackObj] at h2⟩
/-- one of its own cells that is neither a map nor the row -/
theorem RackK.put (h : RackK B w r m1 m2 v s k) {i : Nat} {u : Value} (hi : i < 24) (he : rackCell s' m1 v m2 i = u) (ho : ∀ j, j < 24 → j ≠ i → rackCell s' m1 v m2 j = rackCell s m1 v m2 j)
    (e1 : s'.last = s.last) (e2 : s'.nw = s.nw) (e3 : s'.W = s.W) (e4 : s'.cost = s.cost) : RackK B (w.setCell ⟨r, i, none⟩ u) r m1 m2 v s' k := by
  obtain ⟨n, F, f1, f2, f3⟩ := h.last
  refine ⟨?_, h.hr, h.h1, h.h2, h.ne, ⟨n, F, by rw [e2, e4]; exact f1, f2.setCell (p := ⟨r, i, none⟩) h.ne1 u, by rw [e1]; exact f3⟩, by rw [e3]; exact h.newest.setCell (p := ⟨r, i, none⟩) h.ne2 u, ?_⟩
  · have := h.blk.set_ i u
    rw [rackA_set hi he ho] at this
    exact this
  · rw [e2, e3]
    refine ⟨h.row.1, ?_⟩
    rcases h.row.2 with e | ⟨g, cap, cur, rfl, g1, g2, g3⟩
    · exact .inl e
    · exact .inr ⟨g, cap, cur, rfl, g1, (Below.heap_setCell w ⟨r, i, none⟩ u g (fun e => h.row_ne (by rw [e]; rfl))).trans g2, g3⟩
theorem newIn_put (W : Nat → Wt) (k d a : Nat) : putF (fun d a => (newIn W d a k).map iv) (W k).d (W k).a (.int .i64 (k : Int)) d a = (newIn W d a (k + 1)).map iv := by
  unfold putF
  show _ = (if (W k).d = d ∧ (W k).a = a then some k else newIn W d a k).map _
  by_cases e : (W k).d = d ∧ (W k).a = a
  · rw [if_pos e, if_pos ⟨e.1.symm, e.2.symm⟩]; rfl
  · rw [if_neg e, if_neg (fun x => e ⟨x.1.symm, x.2.symm⟩)]
/-- one entry more in the second map -/
theorem RackK.step (h : RackK B w r m1 m2 v s k) (hg : w.grownBy w' (some m2)) (hm : MapF w' m2 (k + 1) (putF (fun d a => (newIn s.W d a k).map iv) (s.W k).d (s.W k).a (.int .i64 (k : Int)))) : RackK B w' r m1 m2 v s (k + 1) := by
  obtain ⟨n, F, f1, f2, f3⟩ := h.last
  refine ⟨h.blk.grown hg (fun e => h.ne2 (by injection e with e; exact e.symm)), h.hr, h.h1, h.h2, h.ne, ⟨n, F, f1, f2.grown hg (fun e => h.ne (by injection e)), f3⟩, hm.congr fun d a _ _ => newIn_put s.W k d a, h.row.1, ?_⟩
  rcases h.row.2 with e | ⟨g, cap, cur, rfl, g1, g2, g3⟩
  · exact .inl e
  · exact .inr ⟨g, cap, cur, rfl, g1, (hg.block g (Array.getElem?_eq_some_iff.1 g2).1 (fun e => h.row_ne2 (by rw [← e]; rfl))).trans g2, g3⟩
theorem Keep.ofMap {p : Value → Bool} {n : Nat} {F : Nat → Nat → Option Value} (h : Keep B a w) (hm : MapFp p w m2 n F) (hg : w.grownBy w' (some m2)) (hB : B ≤ m2) : Keep B a w' :=
  h.of_grown hg hB (Nat.le_trans hB (Nat.le_of_lt hm.lt)) (fun o ho => by
    obtain ⟨es, c, h1, h2⟩ := hm.isMapK
    rw [h1] at ho
    injection ho with ho
    subst ho
    exact h2)
theorem RackK.grownFar (h : RackK B w r m1 m2 v s k) {g : Nat} {t : TypeId} {cs : Array Value} (hb : Blk w g t cs) (ht : (t == 68 || t == 89) = false) (hg : w.grownBy w' (some g)) : RackK B w' r m1 m2 v s k := by
  refine h.move (fun i hi hor => hg.block i hi (fun e => ?_)) hg.size
  injection e with e
  subst e
  have t1 : t ≠ 68 := by rintro rfl; simp at ht
  have t2 : t ≠ 89 := by rintro rfl; simp at ht
  rcases hor with e | e | e | e
  · subst e; exact Blk.ne_ hb h.blk t1 rfl
  · obtain ⟨n, F, _, h1, _⟩ := h.last
    exact h1.ne_blk hb e.symm
  · exact h.newest.ne_blk hb e.symm
  · obtain ⟨_, cs', hb'⟩ := own_blk h.row e
    exact Blk.ne_ hb hb' t2 rfl
theorem RackAt.grownFar {s : RS} (h : RackAt B w r s) {g : Nat} {t : TypeId} {cs : Array Value} (hb : Blk w g t cs) (ht : (t == 68 || t == 89) = false) (hg : w.grownBy w' (some g)) : RackAt B w' r s := by
  obtain ⟨h0, m1, m2, v, h⟩ := h; exact ⟨h0, m1, m2, v, h.grownFar hb ht hg⟩
theorem Keep.grownNew (h : Keep B a w) {g : Nat} (hg : w.grownBy w' (some g)) (hB : B ≤ g) (hs : B ≤ w.heap.size) (ha : a.heap.size ≤ g) : Keep B a w' :=
  ⟨h.below.trans ⟨hg.os, hg.tape, hg.output, hg.size, fun k hk => hg.block k (by omega) (fun e => by injection e; omega)⟩, fun i x h1 h2 => by
    have h3 := h.kept i x h1 h2
    refine (hg.block i (Array.getElem?_eq_some_iff.1 h3).1 (fun e => ?_)).trans h3
    injection e with e
    have := (Array.getElem?_eq_some_iff.1 h1).1
    omega⟩
/-- whatever is new leaves a rack as it is -/
theorem RackK.below (h : RackK B w r m1 m2 v s k) (hb : Below w.heap.size w w') : RackK B w' r m1 m2 v s k := h.move (fun i hi _ => hb.block i hi) hb.size
theorem RackAt.below {s : RS} (h : RackAt B w r s) (hb : Below w.heap.size w w') : RackAt B w' r s := by
  obtain ⟨h0, m1, m2, v, h⟩ := h; exact ⟨h0, m1, m2, v, h.below hb⟩
theorem Keep.new (h : Keep B a w) (hb : Below w.heap.size w w') (hs : B ≤ w.heap.size) : Keep B a w' :=
  ⟨h.below.trans (hb.mono hs), fun i x h1 h2 => by
    have h3 := h.kept i x h1 h2
    exact (hb.block i (Array.getElem?_eq_some_iff.1 h3).1).trans h3⟩
theorem Blk.new_ {g : Nat} {t : TypeId} {cs : Array Value} (h : Blk w g t cs) (hb : Below w.heap.size w w') : Blk w' g t cs := (hb.block g h.lt).trans h
theorem RackK.grownOut (h : RackK B w r m1 m2 v s k) {g : Nat} (hg : w.grownBy w' (some g)) (n0 : g ≠ r) (n1 : g ≠ m1) (n2 : g ≠ m2) (n3 : v.ownBlock ≠ some g) : RackK B w' r m1 m2 v s k := by
  refine h.move (fun i hi hor => hg.block i hi (fun e => ?_)) hg.size
  injection e with e
  subst e
  rcases hor with e | e | e | e
  · exact n0 e
  · exact n1 e
  · exact n2 e
  · exact n3 e
/-- its four blocks are there -/
theorem RackK.lts (h : RackK B w r m1 m2 v s k) : r < w.heap.size ∧ m1 < w.heap.size ∧ m2 < w.heap.size ∧ ∀ g, v.ownBlock = some g → g < w.heap.size := by
  obtain ⟨n, F, _, h1, _⟩ := h.last
  refine ⟨h.blk.lt, h1.lt, h.newest.lt, fun g hg => ?_⟩
  obtain ⟨_, cs, hb⟩ := own_blk h.row hg
  exact hb.lt
end
end Go.Proofs.YthioanenljpclaaGreatDoor
namespace Go.Proofs.YthioanenljpclaaGreatDoor
set_option maxRecDepth 100000
open Go

section
variable {P : Program} {ops : Array Oper} {md : Region.Mode} {C : World → Prop}

/-- The head, whatever order is picked: f operations of the first n come up, each quiet; then L. -/
def HeadQ (P : Program) (md : Region.Mode) (ops : Array Oper) (C : World → Prop) (n : Nat) (L : Array Bool → Act → Prop) : Nat → Array Bool → Act → Prop
  | 0, listed, a => L listed a
  | f + 1, listed, a => Region.ready md ops listed ≠ [] ∧ ∀ i ∈ Region.ready md ops listed, i < n ∧ qOp P ops C i (HeadQ P md ops C n L f (listed.setIfInBounds i true)) a

theorem any_of_headQ {n g : Nat} {L : Array Bool → Act → Prop} {Q' : Exit → Act → World → Prop} (hL : ∀ listed a w, C w → L listed a → wpAny P md ops Q' g listed a w) :
    ∀ (f : Nat) (listed : Array Bool) (a : Act) (w : World), C w → HeadQ P md ops C n L f listed a → wpAny P md ops Q' (f + g) listed a w := by
  intro f
  induction f with
  | zero =>
    intro listed a w hC h
    rw [Nat.zero_add]
    exact hL _ _ _ hC h
  | succ f ih =>
    intro listed a w hC h
    have e : f + 1 + g = (f + g) + 1 := by omega
    rw [e]
    refine ⟨fun h0 => absurd h0 h.1, fun i hi => ?_⟩
    exact wpOp_of_qOp hC (fun a' w' hw' h' => ih _ a' w' hw' h') (h.2 i hi).2

theorem headQ_first {n i : Nat} {oi : Oper} {v : Value} {L : Array Bool → Act → Prop} (hi : ops[i]? = some oi) (hsel : ∀ (j : Nat) (o : Oper) cs b, ops[j]? = some o → o.op ≠ .select cs b)
    (hs : Region.sinkB md ops n = true) (hc : Region.chainB md ops n = true) (hn : n < ops.size) (hin : i < n)
    (hdone : ∀ listed a, L listed a → ∀ j ∈ Region.ready md ops listed, n ≤ j) :
    ∀ (f : Nat) (listed : Array Bool) (a : Act), HeadInv md ops n listed →
      (∀ j oj, ops[j]? = some oj → j ≠ i → listed.getD j true = false → (∀ e ∈ oj.after, Region.binds md e = true → e.on ≠ i) → oi.apart ops oj = true) →
      i ∈ Region.ready md ops listed → YieldsIn P ops C oi v a →
      HeadQ P md ops C n L f (listed.setIfInBounds i true) (a.put oi.dst v) → HeadQ P md ops C n L (f + 1) listed a := by
  intro f
  induction f with
  | zero =>
    intro listed a inv _ hr hy H
    have hun := (mem_ready.1 hr).1
    refine ⟨fun h => (by rw [h] at hr; cases hr), fun j hj => ?_⟩
    have hjn : j < n := by
      rcases Nat.lt_or_ge j n with h | h
      · exact h
      · exact absurd hj (tail_waits hs hc hn inv _ i rfl hin hun j h)
    refine ⟨hjn, ?_⟩
    by_cases hji : j = i
    · subst hji
      exact hy.qOp hi H
    · have h3 := hdone _ _ H j (ready_mono hj hji)
      omega
  | succ f ih =>
    intro listed a inv hfree hr hy H
    have hun := (mem_ready.1 hr).1
    refine ⟨fun h => (by rw [h] at hr; cases hr), fun j hj => ?_⟩
    have hjn : j < n := by
      rcases Nat.lt_or_ge j n with h | h
      · exact h
      · exact absurd hj (tail_waits hs hc hn inv _ i rfl hin hun j h)
    refine ⟨hjn, ?_⟩
    by_cases hji : j = i
    · subst hji
      exact hy.qOp hi H
    · have h1 := (H.2 j (ready_mono hj hji)).2
      obtain ⟨hjun, oj, hoj, hall⟩ := mem_ready.1 hj
      have hnot : ∀ e ∈ oj.after, Region.binds md e = true → e.on ≠ i := fun e he hb heq => by
        have h4 := hall e he hb
        rw [heq, getD_both hun] at h4
        cases h4
      have h2 := qOp_put hoj (hfree j oj hoj hji hjun hnot) (fun cs b => hsel i oi cs b hi) (fun cs b => hsel j oj cs b hoj) hy h1
      refine qOp_mono (fun a' h3 => ih (listed.setIfInBounds j true) a' (inv.set hj hjn) (fun k ok hk hki hunk hno => ?_) (ready_mono hr (Ne.symm hji)) h3.1 ?_) h2
      · refine hfree k ok hk hki ?_ hno
        by_cases hjk : j = k
        · subst hjk
          exact hjun
        · rw [getD_set_ne true hjk] at hunk
          exact hunk
      · rw [Array.setIfInBounds_comm _ _ hji]
        exact h3.2

theorem headQ_lex {n g : Nat} {Lq : Act → Prop} (hsel : Region.noSelect ops = true) (hs : Region.sinkB md ops n = true) (hc : Region.chainB md ops n = true) (hn : n < ops.size) :
    ∀ (l : List Oper) (k : Nat) (listed : Array Bool) (a : Act), (∀ j, j < l.length → l[j]? = ops[k + j]?) → k + l.length = n → HeadInv md ops n listed →
    Region.lexHead md ops g l.length k listed = true → wpQuiet P ops C Lq l a →
    HeadQ P md ops C n (fun listed' a' => Region.seqB md ops g n listed' = true ∧ Lq a') l.length listed a := by
  intro l
  induction l with
  | nil =>
    intro k listed a _ hk _ hB h
    have e : k = n := by simpa using hk
    subst e
    exact ⟨by simpa [Region.lexHead] using hB, h⟩
  | cons o l ih =>
    intro k listed a hl hk inv hB h
    have h0 : ops[k]? = some o := by simpa using (hl 0 (by simp)).symm
    simp only [List.length_cons, Region.lexHead, Bool.and_eq_true] at hB
    obtain ⟨⟨hr, hf⟩, hB'⟩ := hB
    have hkn : k < n := by simp only [List.length_cons] at hk; omega
    have hr' : k ∈ Region.ready md ops listed := by simpa using hr
    have hst : qOp P ops C k (wpQuiet P ops C Lq l) a := by unfold qOp; simp only [h0]; exact h
    obtain ⟨v, hy, hK⟩ := yieldsIn_of_qOp h0 hst
    refine headQ_first h0 (Region.noSelect_spec hsel) hs hc hn hkn (fun listed' a' hL => seqB_ready hL.1) l.length listed a inv (Region.free_spec h0 hf) hr' hy ?_
    refine ih (k + 1) _ _ (fun j hj => ?_) (by simp only [List.length_cons] at hk; omega) (inv.set hr' hkn) hB' hK
    have h5 := hl (j + 1) (by simp; omega)
    simpa [Nat.add_assoc, Nat.add_comm 1 j] using h5

/-- The region: n operations that read or call quietly, then the others one by one. -/
theorem region_quiet_tail {id : Nat} {Q : Exit → Act → World → Prop} {a : Act} {w : World} {l : List Oper} (n : Nat) (hm : P.follows .mixedOrders = true) (hB : Region.lexTailB .any l.toArray n = true)
    (h : wpQuiet P l.toArray (fun w' => ∃ k, w' = w.drewN k) (fun a' => ∀ w', (∃ k, w' = w.drewN k) → wpList P l.toArray Q (l.drop n) a' w') (l.take n) a) : (Code.region id l.toArray true).wp P Q a w := by
  simp only [Region.lexTailB, Bool.and_eq_true, decide_eq_true_eq] at hB
  obtain ⟨⟨⟨⟨hsel, hn⟩, hs⟩, hc⟩, hlex⟩ := hB
  have hn' : n < l.length := by simpa using hn
  have htl : (l.take n).length = n := by simp; omega
  have hdl : (l.drop n).length = l.toArray.size - n := by simp
  have inv0 : HeadInv .any l.toArray n (Array.replicate l.toArray.size false) :=
    ⟨by simp, fun j oj _ hl => (by rw [getD_replicate_false] at hl; cases hl), fun t _ ht => getD_in (by simpa using ht) (getD_replicate_false _ _)⟩
  have H := headQ_lex (md := .any) (g := l.toArray.size - n) hsel hs hc hn (l.take n) 0 _ a (fun j hj => by
    have hj' : j < n := by rw [htl] at hj; exact hj
    simp [hj']) (by simpa using htl) inv0 (by rw [htl]; exact hlex) h
  refine wp_region_any hm ?_
  have h6 := any_of_headQ (Q' := Q) (g := l.toArray.size - n) (fun listed a' w' hC hL => by
    have h7 := wpAny_of_seq (md := .any) (Q' := Q) (l.drop n) n listed a' w' (fun j => by simp [List.getElem?_drop]) (by rw [hdl]; exact hL.1) (hL.2 w' hC)
    rwa [hdl] at h7) _ _ _ { w with drawn := w.drawn + 1 } ⟨1, rfl⟩ H
  rw [htl, show n + (l.toArray.size - n) = l.toArray.size by omega] at h6
  exact h6
end
end Go.Proofs.YthioanenljpclaaGreatDoor
namespace Go.Proofs.YthioanenljpclaaGreatDoor
set_option maxRecDepth 100000
open Go.RowKit
set_option linter.unusedVariables false
set_option linter.unusedSimpArgs false

/-- is it one of the drives? -/
def RS.isD (s : RS) (D : Int) : Bool := decide (0 ≤ D) && decide (D < (s.nd : Int))
def RS.isP (s : RS) (D A : Int) : Bool := s.isD D && (decide (0 ≤ A) && decide (A < (s.ns : Int)))

set_option maxRecDepth 100000 in
theorem has_any {B : Nat} (w : World) (r : Nat) (s : RS) (D : Int) (h : RackAt B w r s) :
    Calls Tryz.prog 40 #[.pointer (some ⟨r, 0, none⟩), .int .i64 D] w fun e w' => e = .returned (.bool (s.isD D)) ∧ w' = w := by
  obtain ⟨h0, m1, m2, v, h⟩ := h
  have c0 := h.c0
  clear h0 h
  unfold RS.isD
  by_cases h1 : 0 ≤ D
  · have t1 : decide (0 ≤ D) = true := by simp [h1]
    by_cases h2 : D < (s.nd : Int)
    · have t2 : decide (D < (s.nd : Int)) = true := by simp [h2]
      go_enter Tryz.func40, Tryz.ntmps40
      go_wp2
      go_ret
      simp [h1, h2]
    · have t2 : decide (D < (s.nd : Int)) = false := by simp; omega
      go_enter Tryz.func40, Tryz.ntmps40
      go_wp2
      go_ret
      simp [h1, h2]
  · have t1 : decide (0 ≤ D) = false := by simp; omega
    go_enter Tryz.func40, Tryz.ntmps40
    go_wp2
    go_ret
    simp [h1]

theorem drives_any {B : Nat} (w : World) (r : Nat) (s : RS) (h : RackAt B w r s) :
    Calls Tryz.prog 34 #[.pointer (some ⟨r, 0, none⟩)] w fun e w' => e = .returned (.int .i64 (s.nd : Int)) ∧ w' = w := by
  obtain ⟨h0, m1, m2, v, h⟩ := h
  have c0 := h.c0
  clear h0 h
  go_enter Tryz.func34, Tryz.ntmps34
  go_wp2
  go_ret
  exact ⟨rfl, rfl⟩
theorem sectors_any {B : Nat} (w : World) (r : Nat) (s : RS) (h : RackAt B w r s) :
    Calls Tryz.prog 54 #[.pointer (some ⟨r, 0, none⟩)] w fun e w' => e = .returned (.int .i64 (s.ns : Int)) ∧ w' = w := by
  obtain ⟨h0, m1, m2, v, h⟩ := h
  have c1 := h.c1
  clear h0 h
  go_enter Tryz.func54, Tryz.ntmps54
  go_wp2
  go_ret
  exact ⟨rfl, rfl⟩
/-- why a place can't be reached -/
def RS.why (s : RS) (D A : Int) : Int := if s.isP D A then (if s.gone D.toNat then 3 else 0) else 1
def placeV (D A : Int) : Value := .agg #[.int .i64 D, .int .i64 A]

set_option maxRecDepth 100000 in
set_option maxHeartbeats 800000 in
theorem reach_any {B : Nat} (w : World) (r : Nat) (s : RS) (D A : Int) (h : RackAt B w r s) :
    Calls Tryz.prog 44 #[.pointer (some ⟨r, 0, none⟩), placeV D A] w fun e w' => e = .returned (.int .i64 (s.why D A)) ∧ RackAt B w' r s ∧ Keep B w w' ∧ w'.heap.size = w.heap.size + 1 ∧ Below w.heap.size w w' := by
  have hle := h.le
  have K0 := Lib.hid (((Keep.refl B w).alloc h.le (.cells #[.int .i64 D, .int .i64 A] 84)))
  have N0 := Lib.hid ((Below.refl w.heap.size w).alloc (Nat.le_refl _) (.cells #[.int .i64 D, .int .i64 A] 84))
  have HS := Lib.hid (h.alloc (.cells #[.int .i64 D, .int .i64 A] 84))
  obtain ⟨h0, m1, m2, v, hw⟩ := h
  have c1 := hw.c1
  have c1' : (w.alloc (.cells #[.int .i64 D, .int .i64 A] 84)).cell? ⟨r, 1, none⟩ = some (.int .i64 (s.ns : Int)) := (hw.alloc _).c1
  have hh := Lib.hid (fun n => has_any _ r s D (HS.out.drewN n))
  clear hw
  by_cases hd : s.isD D = true
  · have hd2 := hd
    unfold RS.isD at hd2
    simp at hd2
    have hnd := h0.nd2
    obtain ⟨d, rfl⟩ : ∃ d : Nat, D = (d : Int) := ⟨D.toNat, by omega⟩
    have i2 : (d : Int) < 16 := by omega
    have i1 : (0 : Int) ≤ (d : Int) := by omega
    unfold RS.why RS.isP placeV
    simp only [hd] at hh ⊢
    clear h0
    by_cases ha : 0 ≤ A
    · have t1 : (A < 0) = False := by simp; omega
      have t1' : decide (A < 0) = false := by simp; omega
      have t1'' : decide (0 ≤ A) = true := by simp; omega
      by_cases ha2 : A < (s.ns : Int)
      · have t2 : ((s.ns : Int) ≤ A) = False := by simp; omega
        have t2' : decide ((s.ns : Int) ≤ A) = false := by simp; omega
        have t2'' : decide (A < (s.ns : Int)) = true := by simp; omega
        simp only [t1'', t2'', Int.toNat_natCast]
        obtain ⟨_, n1, n2, vv, hs2⟩ := HS.out
        have cg := hs2.cg (d := d) (by omega)
        clear hs2
        by_cases hg : s.gone d = true
        rotate_left
        · have hg' : s.gone d = false := by simpa using hg
          simp only [hg'] at cg
          simp only [hg', Bool.and_self, if_true, Bool.false_eq_true, if_false]
          go_enter Tryz.func44, Tryz.ntmps44
          go_wp2_with fail
          go_quiet ((go_at_call 40; exact Calls.quiet_of_same (hh.out _)))
          go_wp2_with fail
          go_quiet (fail)
          go_wp2_with fail
          go_ret
          exact ⟨rfl, (HS.out.drewN _).drewN _, (K0.out.drewN _).drewN _, by simp, below_drewN (below_drewN N0.out _) _⟩
        · simp only [hg] at cg
          simp only [hg, Bool.and_self, if_true]
          go_enter Tryz.func44, Tryz.ntmps44
          go_wp2_with fail
          go_quiet ((go_at_call 40; exact Calls.quiet_of_same (hh.out _)))
          go_wp2_with fail
          go_quiet (fail)
          go_wp2_with fail
          go_ret
          exact ⟨rfl, (HS.out.drewN _).drewN _, (K0.out.drewN _).drewN _, by simp, below_drewN (below_drewN N0.out _) _⟩
      · have t2 : ((s.ns : Int) ≤ A) = True := by simp; omega
        have t2' : decide ((s.ns : Int) ≤ A) = true := by simp; omega
        have t2'' : decide (A < (s.ns : Int)) = false := by simp; omega
        simp only [t1'', t2'', Bool.and_false, Bool.false_eq_true, if_false]
        go_enter Tryz.func44, Tryz.ntmps44
        go_wp2_with fail
        go_quiet ((go_at_call 40; exact Calls.quiet_of_same (hh.out _)))
        go_wp2_with fail
        go_ret
        exact ⟨rfl, HS.out.drewN _, K0.out.drewN _, by simp, below_drewN N0.out _⟩
    · have t1 : (A < 0) = True := by simp; omega
      have t1' : decide (A < 0) = true := by simp; omega
      have t1'' : decide (0 ≤ A) = false := by simp; omega
      simp only [t1'', Bool.and_false, Bool.false_and, Bool.false_eq_true, if_false]
      go_enter Tryz.func44, Tryz.ntmps44
      go_wp2_with fail
      go_quiet ((go_at_call 40; exact Calls.quiet_of_same (hh.out _)))
      go_wp2_with fail
      go_ret
      exact ⟨rfl, HS.out.drewN _, K0.out.drewN _, by simp, below_drewN N0.out _⟩
  · have hd' : s.isD D = false := by simpa using hd
    unfold RS.why RS.isP placeV
    simp only [hd'] at hh ⊢
    clear hd hd' h0
    go_enter Tryz.func44, Tryz.ntmps44
    go_wp2_with fail
    go_quiet ((go_at_call 40; exact Calls.quiet_of_same (hh.out _)))
    go_wp2_with fail
    go_ret
    exact ⟨rfl, HS.out.drewN _, K0.out.drewN _, by simp, below_drewN N0.out _⟩

end Go.Proofs.YthioanenljpclaaGreatDoor
