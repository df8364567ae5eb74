/-
 A rack in memory: its cells, its two maps, the row of what waits; and what else a call of the rack leaves as it is. No conditions beyond those that each theorem types.
-/
import Derived.Test.YtgbehfkimchglaaGreatDoorRackMapM
namespace Go.Proofs.YtgbehfkimchglaaGreatDoor
set_option maxRecDepth 100000
open Go.RowKit
set_option linter.unusedVariables false
structure Wt where
 d : Nat
 a : Nat
 x : Nat → Nat
structure RS where
 nd : Nat
 ns : Nat
 last : Nat → Nat → Nat → Nat
 nw : Nat
 W : Nat → Wt
 gone : Nat → Bool
 off : Bool
 armed : Bool
 left : Nat
 cost : Nat
def iv (i : Nat) : Value := .int .i64 (i : Int)
def zeros (_ : Nat) : Nat := 0
def newIn (W : Nat → Wt) (d a : Nat) : Nat → Option Nat
 | 0 => none
 | k + 1 => if (W k).d = d ∧ (W k).a = a then some k else newIn W d a k
theorem newIn_congr {W V : Nat → Wt} {d a : Nat} : ∀ {k : Nat}, (∀ i, i < k → (W i).d = (V i).d ∧ (W i).a = (V i).a) → newIn W d a k = newIn V d a k
 | 0, _ => rfl
 | k + 1, h => by
  unfold newIn
  rw [(h k (by omega)).1, (h k (by omega)).2, newIn_congr fun i hi => h i (by omega)]
def RS.holds (s : RS) (d a : Nat) : Nat → Nat :=
 match newIn s.W d a s.nw with
 | some i => (s.W i).x
 | none => s.last d a
def secA (x : Nat → Nat) : Array Value := rowArr 128 x
def waitA (v : Wt) : Array Value := #[.int .i64 (v.d : Int), .int .i64 (v.a : Int)] ++ secA v.x
theorem waitA_size (v : Wt) : (waitA v).size = 130 := by simp [waitA, secA, rowArr_size]
theorem secA_size (x : Nat → Nat) : (secA x).size = 128 := rowArr_size _ _
theorem secA_one (x : Nat → Nat) : (secA x).all (·.oneCell') = true := rowArr_one _ _
theorem waitA_one (v : Wt) : (waitA v).all (·.oneCell') = true := by
 unfold waitA
 rw [Array.all_append, secA_one]
 simp [Value.oneCell']
def rackCell (s : RS) (m1 : Nat) (v : Value) (m2 i : Nat) : Value :=
 if i = 0 then .int .i64 (s.nd : Int) else if i = 1 then .int .i64 (s.ns : Int) else if i = 2 then .map (some m1) else if i = 3 then v else if i = 4 then .map (some m2)
 else if i < 21 then .bool (s.gone (i - 5)) else if i = 21 then .bool s.off else if i = 22 then .bool s.armed else .int .i64 (s.left : Int)
def rackA (s : RS) (m1 : Nat) (v : Value) (m2 : Nat) : Array Value := Array.ofFn (n := 24) fun i => rackCell s m1 v m2 i.val
theorem rackA_get (s : RS) (m1 : Nat) (v : Value) (m2 : Nat) {i : Nat} (h : i < 24) : (rackA s m1 v m2)[i]? = some (rackCell s m1 v m2 i) := by simp [rackA, h]
theorem rackA_set {s s' : RS} {m1 m1' m2 m2' : Nat} {v v' u : Value} {i : Nat} (hi : i < 24) (h : rackCell s' m1' v' m2' i = u) (ho : ∀ j, j < 24 → j ≠ i → rackCell s' m1' v' m2' j = rackCell s m1 v m2 j) :
  (rackA s m1 v m2).setIfInBounds i u = rackA s' m1' v' m2' := by
 have hs : ∀ (s : RS) m1 v m2, (rackA s m1 v m2).size = 24 := fun _ _ _ _ => by simp [rackA]
 apply Array.ext_getElem?
 intro j
 rw [Array.getElem?_setIfInBounds, hs]
 by_cases hj : j < 24
 ·rw [rackA_get _ _ _ _ hj, rackA_get _ _ _ _ hj]
  by_cases e : i = j
  ·subst e; rw [if_pos rfl, if_pos hi, h]
  ·rw [if_neg e, ho j hj (fun e' => e e'.symm)]
 ·rw [if_neg (by omega), Array.getElem?_eq_none (by rw [hs]; omega), Array.getElem?_eq_none (by rw [hs]; omega)]
def flat (W : Nat → Wt) : Nat → List Value
 | 0 => []
 | n + 1 => flat W n ++ (waitA (W n)).toList
theorem flat_length (W : Nat → Wt) : ∀ n, (flat W n).length = n * 130
 | 0 => rfl
 | n + 1 => by
  unfold flat
  rw [List.length_append, flat_length W n, Array.length_toList, waitA_size]
  omega
theorem flat_get (W : Nat → Wt) {j : Nat} (hj : j < 130) : ∀ {n i : Nat}, i < n → (flat W n)[i * 130 + j]? = (waitA (W i))[j]?
 | 0, i, h => absurd h (Nat.not_lt_zero _)
 | n + 1, i, h => by
  unfold flat
  by_cases e : i = n
  ·subst e
   rw [List.getElem?_append_right (by rw [flat_length]; omega), flat_length, show i * 130 + j - i * 130 = j by omega, Array.getElem?_toList]
  ·rw [List.getElem?_append_left (by rw [flat_length]; omega)]
   exact flat_get W hj (by omega)
theorem flat_congr {W V : Nat → Wt} : ∀ {n : Nat}, (∀ i, i < n → W i = V i) → flat W n = flat V n
 | 0, _ => rfl
 | n + 1, h => by
  unfold flat
  rw [flat_congr fun i hi => h i (by omega), h n (by omega)]
theorem grown_set (w : World) (g i : Nat) (u : Value) : w.grownBy (w.setCell ⟨g, i, none⟩ u) (some g) :=
 ⟨rfl, rfl, rfl, by simp [World.setCell], fun k hk hne => Below.heap_setCell w ⟨g, i, none⟩ u k (fun e => hne (by rw [e]))⟩
def rackObj : Obj → Bool
 | .map es _ => es.all fun e => aggKey e.key
 | .cells _ t _ => t == 128 || t == 176
 | _ => false
structure Keep (B : Nat) (w w' : World) : Prop where
 below : Below B w w'
 kept : ∀ (k : Nat) (o : Obj), w.heap[k]? = some o → rackObj o = false → w'.heap[k]? = some o
section
variable {B : Nat} {a w w' : World}
theorem Keep.refl (B : Nat) (w : World) : Keep B w w := ⟨Below.refl B w, fun _ _ h _ => h⟩
theorem Keep.trans (h : Keep B a w) (k : Keep B w w') : Keep B a w' := ⟨h.below.trans k.below, fun i o h1 h2 => k.kept i o (h.kept i o h1 h2) h2⟩
theorem Keep.drew (h : Keep B a w) : Keep B a w.drew := ⟨h.below.drew, h.kept⟩
theorem Keep.drewN (h : Keep B a w) (n : Nat) : Keep B a (w.drewN n) := ⟨⟨h.below.os, h.below.tape, h.below.output, h.below.size, h.below.block⟩, h.kept⟩
theorem Keep.alloc (h : Keep B a w) (hB : B ≤ w.heap.size) (o : Obj) : Keep B a (w.alloc o) :=
 ⟨h.below.alloc hB o, fun i x h1 h2 => by
  have h3 := h.kept i x h1 h2
  exact (Below.heap_alloc w o i (Array.getElem?_eq_some_iff.1 h3).1).trans h3⟩
theorem Keep.block (h : Keep B a w) {g : Nat} {t : TypeId} {cs : Array Value} (hb : Blk a g t cs) (ht : (t == 128 || t == 176) = false) : Blk w g t cs := h.kept g _ hb ht
theorem Keep.of_grown (h : Keep B a w) {g : Nat} (hg : w.grownBy w' (some g)) (hB : B ≤ g) (hs : B ≤ w.heap.size) (ho : ∀ o, w.heap[g]? = some o → rackObj o = true) : Keep B a w' :=
 ⟨h.below.trans ⟨hg.os, hg.tape, hg.output, hg.size, fun k hk => hg.block k (by omega) (fun e => by injection e; omega)⟩, fun i x h1 h2 => by
  have h3 := h.kept i x h1 h2
  refine (hg.block i (Array.getElem?_eq_some_iff.1 h3).1 (fun e => ?_)).trans h3
  injection e with e
  subst e
  rw [ho _ h3] at h2
  cases h2⟩
end
def isSec (v : Value) : Bool :=
 match v with
 | .agg cs => cs.size == 128 && cs.all (·.oneCell')
 | _ => false
abbrev MapS := MapFp isSec
structure RackK (B : Nat) (w : World) (r m1 m2 : Nat) (v : Value) (s : RS) (k : Nat) : Prop where
 blk : Blk w r 128 (rackA s m1 v m2)
 hr : B ≤ r
 h1 : B ≤ m1
 h2 : B ≤ m2
 ne : m1 ≠ m2
 last : ∃ n F, n + s.nw ≤ s.cost ∧ MapS w m1 n F ∧ ∀ d a, d < 4611686018427387904 → a < 4611686018427387904 → (F d a).getD (.agg (secA zeros)) = .agg (secA (s.last d a))
 newest : MapF w m2 k (fun d a => (newIn s.W d a k).map iv)
 row : w.ownsRow B 176 130 v s.nw (flat s.W s.nw)
abbrev RackW (B : Nat) (w : World) (r m1 m2 : Nat) (v : Value) (s : RS) : Prop := RackK B w r m1 m2 v s s.nw
structure RS.ok (s : RS) : Prop where
 nd1 : 1 ≤ s.nd
 nd2 : s.nd ≤ 16
 ns1 : 1 ≤ s.ns
 ns2 : s.ns ≤ 2000
 left : s.left ≤ 9223372036854775807
 cost : s.cost ≤ 1000000
 wp : ∀ i, i < s.nw → (s.W i).d < s.nd ∧ (s.W i).a < s.ns ∧ ∀ j, j < 128 → (s.W i).x j < 256
 lp : ∀ d a j, j < 128 → s.last d a j < 256
def RackAt (B : Nat) (w : World) (r : Nat) (s : RS) : Prop := s.ok ∧ ∃ m1 m2 v, RackW B w r m1 m2 v s
section
variable {B : Nat} {w w' : World} {r m1 m2 : Nat} {v : Value} {s : RS} {k : Nat}
theorem RackK.nw_le (h : RackK B w r m1 m2 v s k) : s.nw ≤ s.cost := by obtain ⟨n, F, h1, _⟩ := h.last; omega
theorem RackK.cell (h : RackK B w r m1 m2 v s k) {i : Nat} (hi : i < 24) : w.cell? ⟨r, i, none⟩ = some (rackCell s m1 v m2 i) := (h.blk.cell i).trans (rackA_get _ _ _ _ hi)
theorem RackK.c0 (h : RackK B w r m1 m2 v s k) : w.cell? ⟨r, 0, none⟩ = some (.int .i64 (s.nd : Int)) := h.cell (by omega)
theorem RackK.c1 (h : RackK B w r m1 m2 v s k) : w.cell? ⟨r, 1, none⟩ = some (.int .i64 (s.ns : Int)) := h.cell (by omega)
theorem RackK.c3 (h : RackK B w r m1 m2 v s k) : w.cell? ⟨r, 3, none⟩ = some v := h.cell (by omega)
theorem RackK.c4 (h : RackK B w r m1 m2 v s k) : w.cell? ⟨r, 4, none⟩ = some (.map (some m2)) := h.cell (by omega)
theorem RackK.cg (h : RackK B w r m1 m2 v s k) {d : Nat} (hd : d < 16) : w.cell? ⟨r, 5 + d, none⟩ = some (.bool (s.gone d)) := by
 refine (h.cell (by omega)).trans ?_
 unfold rackCell
 rw [if_neg (by omega), if_neg (by omega), if_neg (by omega), if_neg (by omega), if_neg (by omega), if_pos (by omega), show 5 + d - 5 = d by omega]
theorem RackK.c21 (h : RackK B w r m1 m2 v s k) : w.cell? ⟨r, 21, none⟩ = some (.bool s.off) := h.cell (by omega)
theorem RackK.c22 (h : RackK B w r m1 m2 v s k) : w.cell? ⟨r, 22, none⟩ = some (.bool s.armed) := h.cell (by omega)
theorem RackK.c23 (h : RackK B w r m1 m2 v s k) : w.cell? ⟨r, 23, none⟩ = some (.int .i64 (s.left : Int)) := h.cell (by omega)
theorem RackK.frozen (h : RackK B w r m1 m2 v s k) (i : Nat) : w.frozen? ⟨r, i, none⟩ = false := h.blk.frozen i
theorem RackK.le (h : RackK B w r m1 m2 v s k) : B ≤ w.heap.size := Nat.le_trans h.hr (Nat.le_of_lt h.blk.lt)
theorem RackK.ne1 (h : RackK B w r m1 m2 v s k) : m1 ≠ r := by obtain ⟨n, F, _, h1, _⟩ := h.last; exact h1.ne_blk h.blk
theorem RackK.ne2 (h : RackK B w r m1 m2 v s k) : m2 ≠ r := h.newest.ne_blk h.blk
theorem own_blk {e : TypeId} {n c : Nat} {xs : List Value} {g : Nat} (h : w.ownsRow B e c v n xs) (hv : v.ownBlock = some g) : B ≤ g ∧ ∃ cs, Blk w g e cs := by
 rcases h.2 with ⟨rfl, _⟩ | ⟨g', cap, cur, rfl, h1, h2, _⟩
 ·cases hv
 ·injection hv with hv
  have hv : g' = g := hv
  subst hv
  exact ⟨h1, cur, h2⟩
theorem RackK.row_ne (h : RackK B w r m1 m2 v s k) : v.ownBlock ≠ some r := fun e => by
 obtain ⟨_, cs, hb⟩ := own_blk h.row e
 exact Blk.ne_ hb h.blk (by decide) rfl
theorem RackK.row_ne2 (h : RackK B w r m1 m2 v s k) : v.ownBlock ≠ some m2 := fun e => by
 obtain ⟨_, cs, hb⟩ := own_blk h.row e
 exact h.newest.ne_blk hb rfl
theorem RackK.row_ne1 (h : RackK B w r m1 m2 v s k) : v.ownBlock ≠ some m1 := fun e => by
 obtain ⟨_, cs, hb⟩ := own_blk h.row e
 obtain ⟨n, F, _, h1, _⟩ := h.last
 exact h1.ne_blk hb rfl
theorem RackK.move (h : RackK B w r m1 m2 v s k) (hb : ∀ i, i < w.heap.size → i = r ∨ i = m1 ∨ i = m2 ∨ v.ownBlock = some i → w'.heap[i]? = w.heap[i]?) (hz : w.heap.size ≤ w'.heap.size) : RackK B w' r m1 m2 v s k := by
 obtain ⟨n, F, e1, e2, e3⟩ := h.last
 refine ⟨(hb r h.blk.lt (.inl rfl)).trans h.blk, h.hr, h.h1, h.h2, h.ne, ⟨n, F, e1, e2.block (hb m1 e2.lt (.inr (.inl rfl))), e3⟩, h.newest.block (hb m2 h.newest.lt (.inr (.inr (.inl rfl)))), ?_⟩
 refine ⟨h.row.1, ?_⟩
 rcases h.row.2 with e | ⟨g, cap, cur, rfl, f1, f2, f3⟩
 ·exact .inl e
 ·exact .inr ⟨g, cap, cur, rfl, f1, (hb g (Array.getElem?_eq_some_iff.1 f2).1 (.inr (.inr (.inr rfl)))).trans f2, f3⟩
theorem RackK.drewN (h : RackK B w r m1 m2 v s k) (n : Nat) : RackK B (w.drewN n) r m1 m2 v s k := h.move (fun _ _ _ => rfl) (Nat.le_refl _)
theorem RackK.alloc (h : RackK B w r m1 m2 v s k) (o : Obj) : RackK B (w.alloc o) r m1 m2 v s k := h.move (fun k hk _ => Below.heap_alloc w o k hk) (by simp)
end
section
variable {B : Nat} {w w' : World} {r : Nat} {s : RS}
theorem RackAt.drewN (h : RackAt B w r s) (n : Nat) : RackAt B (w.drewN n) r s := by obtain ⟨h0, m1, m2, v, h⟩ := h; exact ⟨h0, m1, m2, v, h.drewN n⟩
theorem RackAt.alloc (h : RackAt B w r s) (o : Obj) : RackAt B (w.alloc o) r s := by obtain ⟨h0, m1, m2, v, h⟩ := h; exact ⟨h0, m1, m2, v, h.alloc o⟩
theorem RackAt.le (h : RackAt B w r s) : B ≤ w.heap.size := by obtain ⟨h0, m1, m2, v, h⟩ := h; exact h.le
end
section
variable {B : Nat} {a w w' : World} {r m1 m2 : Nat} {v : Value} {s s' : RS} {k : Nat}
theorem Keep.setRack (h : Keep B a w) {cs : Array Value} (hb : Blk w r 128 cs) (hB : B ≤ r) (i : Nat) (u : Value) : Keep B a (w.setCell ⟨r, i, none⟩ u) :=
 ⟨h.below.setCell (p := ⟨r, i, none⟩) hB u, fun k o h1 h2 => by
  have h3 := h.kept k o h1 h2
  refine (Below.heap_setCell w ⟨r, i, none⟩ u k ?_).trans h3
  rintro rfl
  unfold Blk at hb
  rw [hb] at h3
  injection h3 with h3
  subst h3
  simp [rackObj] at h2⟩
theorem RackK.put (h : RackK B w r m1 m2 v s k) {i : Nat} {u : Value} (hi : i < 24) (he : rackCell s' m1 v m2 i = u) (ho : ∀ j, j < 24 → j ≠ i → rackCell s' m1 v m2 j = rackCell s m1 v m2 j)
  (e1 : s'.last = s.last) (e2 : s'.nw = s.nw) (e3 : s'.W = s.W) (e4 : s'.cost = s.cost) : RackK B (w.setCell ⟨r, i, none⟩ u) r m1 m2 v s' k := by
 obtain ⟨n, F, f1, f2, f3⟩ := h.last
 refine ⟨?_, h.hr, h.h1, h.h2, h.ne, ⟨n, F, by rw [e2, e4]; exact f1, f2.setCell (p := ⟨r, i, none⟩) h.ne1 u, by rw [e1]; exact f3⟩, by rw [e3]; exact h.newest.setCell (p := ⟨r, i, none⟩) h.ne2 u, ?_⟩
 ·have := h.blk.set_ i u
  rw [rackA_set hi he ho] at this
  exact this
 ·rw [e2, e3]
  refine ⟨h.row.1, ?_⟩
  rcases h.row.2 with e | ⟨g, cap, cur, rfl, g1, g2, g3⟩
  ·exact .inl e
  ·exact .inr ⟨g, cap, cur, rfl, g1, (Below.heap_setCell w ⟨r, i, none⟩ u g (fun e => h.row_ne (by rw [e]; rfl))).trans g2, g3⟩
theorem newIn_put (W : Nat → Wt) (k d a : Nat) : putF (fun d a => (newIn W d a k).map iv) (W k).d (W k).a (.int .i64 (k : Int)) d a = (newIn W d a (k + 1)).map iv := by
 unfold putF
 show _ = (if (W k).d = d ∧ (W k).a = a then some k else newIn W d a k).map _
 by_cases e : (W k).d = d ∧ (W k).a = a
 ·rw [if_pos e, if_pos ⟨e.1.symm, e.2.symm⟩]; rfl
 ·rw [if_neg e, if_neg (fun x => e ⟨x.1.symm, x.2.symm⟩)]
theorem RackK.step (h : RackK B w r m1 m2 v s k) (hg : w.grownBy w' (some m2)) (hm : MapF w' m2 (k + 1) (putF (fun d a => (newIn s.W d a k).map iv) (s.W k).d (s.W k).a (.int .i64 (k : Int)))) : RackK B w' r m1 m2 v s (k + 1) := by
 obtain ⟨n, F, f1, f2, f3⟩ := h.last
 refine ⟨h.blk.grown hg (fun e => h.ne2 (by injection e with e; exact e.symm)), h.hr, h.h1, h.h2, h.ne, ⟨n, F, f1, f2.grown hg (fun e => h.ne (by injection e)), f3⟩, hm.congr fun d a _ _ => newIn_put s.W k d a, h.row.1, ?_⟩
 rcases h.row.2 with e | ⟨g, cap, cur, rfl, g1, g2, g3⟩
 ·exact .inl e
 ·exact .inr ⟨g, cap, cur, rfl, g1, (hg.block g (Array.getElem?_eq_some_iff.1 g2).1 (fun e => h.row_ne2 (by rw [← e]; rfl))).trans g2, g3⟩
theorem Keep.ofMap {p : Value → Bool} {n : Nat} {F : Nat → Nat → Option Value} (h : Keep B a w) (hm : MapFp p w m2 n F) (hg : w.grownBy w' (some m2)) (hB : B ≤ m2) : Keep B a w' :=
 h.of_grown hg hB (Nat.le_trans hB (Nat.le_of_lt hm.lt)) (fun o ho => by
  obtain ⟨es, c, h1, h2⟩ := hm.isMapK
  rw [h1] at ho
  injection ho with ho
  subst ho
  exact h2)
theorem Keep.grownNew (h : Keep B a w) {g : Nat} (hg : w.grownBy w' (some g)) (hB : B ≤ g) (hs : B ≤ w.heap.size) (ha : a.heap.size ≤ g) : Keep B a w' :=
 ⟨h.below.trans ⟨hg.os, hg.tape, hg.output, hg.size, fun k hk => hg.block k (by omega) (fun e => by injection e; omega)⟩, fun i x h1 h2 => by
  have h3 := h.kept i x h1 h2
  refine (hg.block i (Array.getElem?_eq_some_iff.1 h3).1 (fun e => ?_)).trans h3
  injection e with e
  have := (Array.getElem?_eq_some_iff.1 h1).1
  omega⟩
theorem RackK.below (h : RackK B w r m1 m2 v s k) (hb : Below w.heap.size w w') : RackK B w' r m1 m2 v s k := h.move (fun i hi _ => hb.block i hi) hb.size
theorem RackAt.below {s : RS} (h : RackAt B w r s) (hb : Below w.heap.size w w') : RackAt B w' r s := by
 obtain ⟨h0, m1, m2, v, h⟩ := h; exact ⟨h0, m1, m2, v, h.below hb⟩
theorem Keep.new (h : Keep B a w) (hb : Below w.heap.size w w') (hs : B ≤ w.heap.size) : Keep B a w' :=
 ⟨h.below.trans (hb.mono hs), fun i x h1 h2 => by
  have h3 := h.kept i x h1 h2
  exact (hb.block i (Array.getElem?_eq_some_iff.1 h3).1).trans h3⟩
theorem Blk.new_ {g : Nat} {t : TypeId} {cs : Array Value} (h : Blk w g t cs) (hb : Below w.heap.size w w') : Blk w' g t cs := (hb.block g h.lt).trans h
theorem RackK.grownOut (h : RackK B w r m1 m2 v s k) {g : Nat} (hg : w.grownBy w' (some g)) (n0 : g ≠ r) (n1 : g ≠ m1) (n2 : g ≠ m2) (n3 : v.ownBlock ≠ some g) : RackK B w' r m1 m2 v s k := by
 refine h.move (fun i hi hor => hg.block i hi (fun e => ?_)) hg.size
 injection e with e
 subst e
 rcases hor with e | e | e | e
 ·exact n0 e
 ·exact n1 e
 ·exact n2 e
 ·exact n3 e
theorem RackK.lts (h : RackK B w r m1 m2 v s k) : r < w.heap.size ∧ m1 < w.heap.size ∧ m2 < w.heap.size ∧ ∀ g, v.ownBlock = some g → g < w.heap.size := by
 obtain ⟨n, F, _, h1, _⟩ := h.last
 refine ⟨h.blk.lt, h1.lt, h.newest.lt, fun g hg => ?_⟩
 obtain ⟨_, cs, hb⟩ := own_blk h.row hg
 exact hb.lt
end
end Go.Proofs.YtgbehfkimchglaaGreatDoor
