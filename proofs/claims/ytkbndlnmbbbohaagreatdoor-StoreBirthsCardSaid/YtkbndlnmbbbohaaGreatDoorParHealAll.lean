/-
  'parity.addTimes' and 'parity.addData' whose source is only said to stand while the field and the row that is added to turn (made of XParAdd and XParData by mkparadds.py). Conditions: bytes are bytes.
-/
import Derived.Test.YtkbndlnmbbbohaaGreatDoorFieldJoinM
import Derived.Test.YtkbndlnmbbbohaaGreatDoorParWholeM
import Derived.Test.YtkbndlnmbbbohaaGreatDoorParityBoundsWalkM
import Derived.Test.YtkbndlnmbbbohaaGreatDoorArrMathM
import Derived.Deep.Cut
import Derived.Outline
namespace Go.Proofs.YtkbndlnmbbbohaaGreatDoor
open Go.RowKit
set_option maxRecDepth 100000
set_option linter.unusedVariables false

end Go.Proofs.YtkbndlnmbbbohaaGreatDoor
namespace Go.Proofs.YtkbndlnmbbbohaaGreatDoor
open Go Go.RowKit
set_option maxRecDepth 100000
set_option linter.unusedVariables false

/-- the field and the rows of the columns alone may have turned, others may be new -/
structure OnlyL (b K : Nat) (R : Nat → Nat) (a w : World) : Prop where
  os : w.os = a.os
  tape : w.tape = a.tape
  output : w.output = a.output
  size : a.heap.size ≤ w.heap.size
  block : ∀ i, i < a.heap.size → i ≠ b → (∀ j, j < K → i ≠ R j) → w.heap[i]? = a.heap[i]?
section
variable {b K : Nat} {R : Nat → Nat} {a c w : World}
theorem OnlyL.refl (b K : Nat) (R : Nat → Nat) (w : World) : OnlyL b K R w w := ⟨rfl, rfl, rfl, Nat.le_refl _, fun _ _ _ _ => rfl⟩
theorem OnlyL.trans (h : OnlyL b K R a c) (k : OnlyL b K R c w) : OnlyL b K R a w :=
  ⟨k.os.trans h.os, k.tape.trans h.tape, k.output.trans h.output, Nat.le_trans h.size k.size, fun i hi h1 h2 => (k.block i (Nat.lt_of_lt_of_le hi h.size) h1 h2).trans (h.block i hi h1 h2)⟩
theorem OnlyL.of_only2 {j : Nat} (h : Only2 b (R j) a w) (hj : j < K) : OnlyL b K R a w := ⟨h.os, h.tape, h.output, h.size, fun i hi h1 h2 => h.block i hi h1 (h2 j hj)⟩
theorem OnlyL.drew (h : OnlyL b K R a w) : OnlyL b K R a w.drew := ⟨h.os, h.tape, h.output, h.size, h.block⟩
theorem OnlyL.below (h : OnlyL b K R a w) {B : Nat} (hb : B ≤ b) (hR : ∀ j, j < K → B ≤ R j) (hs : B ≤ a.heap.size) : Below B a w :=
  ⟨h.os, h.tape, h.output, h.size, fun i hi => h.block i (by omega) (by omega) (fun j hj => by have := hR j hj; omega)⟩
end
theorem fld_ne_row {w : World} {b g n : Nat} {X : Nat → Nat} (h : Fld w b) (hr : RowG w g n X) : b ≠ g := fun e => by
  subst e
  obtain ⟨cs, fr, hb, _⟩ := hr
  rcases h with h | h <;>
  · unfold Blk at h
    rw [hb] at h
    injection h with h
    injection h with _ h _
    exact absurd h (by decide)
theorem fld_ne_own {w : World} {b base n : Nat} {v : Value} {H : Nat → Hd} (h : Fld w b) (ho : OwnS w base v n H) : some b ≠ v.ownBlock := fun e => by
  rcases ho with ⟨rfl, _⟩ | ⟨g', cap, cur, fr, rfl, _, hg, _⟩
  · cases e
  · simp [Value.ownBlock] at e
    subst e
    rcases h with h | h <;>
    · unfold Blk at h
      rw [hg] at h
      injection h with h
      injection h with _ h _
      exact absurd h (by decide)
section
variable {w w' : World} {base K n b : Nat} {v : Value} {H : Nat → Hd} {R : Nat → Nat} {X : Nat → Nat → Nat}
theorem Cols.only (h : Cols w base v K n H R X) (hf : Fld w b) (ho : Only b w w') : Cols w' base v K n H R X :=
  ⟨h.own.keep fun g hg => ho.block g (h.own.lt hg).1 (fun e => fld_ne_own hf h.own (by rw [hg, e])), h.hd, fun j hj => ⟨(h.row j hj).1, (h.row j hj).2.heap (ho.block _ (h.row j hj).2.lt (fun e => by injection e with e; exact fld_ne_row hf (h.row j hj).2 e.symm))⟩, h.apart⟩
theorem Cols.ne (h : Cols w base v K n H R X) {i j : Nat} (hi : i < K) (hj : j < K) (hne : i ≠ j) : R i ≠ R j := by
  by_cases e : i < j
  · exact h.apart i j e hj
  · exact (h.apart j i (by omega) hi).symm
theorem Cols.turn (h : Cols w base v K n H R X) (hf : Fld w b) {j : Nat} {Y : Nat → Nat} (hj : j < K) (hg : RowG w' (R j) n Y) (ho : Only2 b (R j) w w') : Cols w' base v K n H R (fun i => if i = j then Y else X i) := by
  have hrj := (h.row j hj).2
  refine ⟨h.own.keep fun g hg => ho.block g (h.own.lt hg).1 (fun e => fld_ne_own hf h.own (by rw [hg, e])) (fun e => h.own.neG hrj (by rw [hg, e])), h.hd, fun i hi => ⟨(h.row i hi).1, ?_⟩, h.apart⟩
  show RowG w' (R i) n (if i = j then Y else X i)
  by_cases e : i = j
  · rw [if_pos e, e]; exact hg
  · rw [if_neg e]
    exact (h.row i hi).2.heap (ho.block _ (h.row i hi).2.lt (fun q => fld_ne_row hf (h.row i hi).2 q.symm) (h.ne hi hj e))
theorem Cols.congr {Y : Nat → Nat → Nat} (h : Cols w base v K n H R X) (e : ∀ i, i < K → X i = Y i) : Cols w base v K n H R Y :=
  ⟨h.own, h.hd, fun j hj => ⟨(h.row j hj).1, by rw [← e j hj]; exact (h.row j hj).2⟩, h.apart⟩
/-- a column's head -/
theorem Cols.cell {h0 c : Nat} (h : Cols w base (.slice (some ⟨h0, 0, none⟩) K c) K n H R X) {j : Nat} (hj : j < K) : ∃ cj, w.cell? ⟨h0, j, none⟩ = some (.slice (some ⟨R j, 0, none⟩) n cj) ∧ n ≤ cj ∧ cj ≤ maxLen := by
  obtain ⟨cj, e, h1, h2⟩ := h.hd j hj
  rcases h.own with ⟨e1, _⟩ | ⟨g', cap, cur, fr, e1, _, hb, _, _, _, _, h4⟩
  · cases e1
  · injection e1 with e1
    injection e1 with e1
    injection e1 with e1 e2
    subst e1
    exact ⟨cj, by rw [cell_of_row _ _ _ _ _ _ hb, h4 j hj, e]; rfl, h1, h2⟩
end
end Go.Proofs.YtkbndlnmbbbohaaGreatDoor
set_option linter.unusedVariables false
namespace Go.Proofs.YtkbndlnmbbbohaaGreatDoor.M

end Go.Proofs.YtkbndlnmbbbohaaGreatDoor.M
namespace Go.Proofs.YtkbndlnmbbbohaaGreatDoor
open Go Go.RowKit
set_option maxRecDepth 100000
set_option linter.unusedVariables false

/-- the first n bytes, noughts behind -/
def cut (n : Nat) (x : Nat → Nat) (v : Nat) : Nat := if v < n then x v else 0
theorem cut_lt {n : Nat} {x : Nat → Nat} (h : ∀ v, v < n → x v < 256) (v : Nat) : cut n x v < 256 := by
  unfold cut
  split
  · rename_i e; exact h v e
  · omega
/-- r rows of what is left, heads at zl -/
structure LeftAt (w0 w : World) (zl b q n r : Nat) (G Cc : Nat → Nat) (T : Nat → Nat → Nat) : Prop where
  head : Blk w zl 41 (hdX q r (fun i => .slice (some ⟨G i, 0, none⟩) n (Cc i)) (.slice none 0 0))
  row : ∀ i, i < r → zl < G i ∧ RowG w (G i) n (T i)
  fld : Fld w b
  only : Only b w0 w
  base : w0.heap.size ≤ zl ∧ b < w0.heap.size
section
variable {w0 w w' : World} {zl b q n r : Nat} {G Cc : Nat → Nat} {T : Nat → Nat → Nat}
theorem LeftAt.drew (h : LeftAt w0 w zl b q n r G Cc T) : LeftAt w0 w.drew zl b q n r G Cc T := ⟨h.head, h.row, h.fld, h.only.drew, h.base⟩
theorem LeftAt.cell (h : LeftAt w0 w zl b q n r G Cc T) {i : Nat} (hi : i < r) (hq : i < q) : w.cell? ⟨zl, i, none⟩ = some (.slice (some ⟨G i, 0, none⟩) n (Cc i)) := by
  rw [h.head.cell, hdX_get hq, if_pos hi]
/-- a new row is laid, and its head stored: the world between -/
structure LeftMid (w0 w : World) (zl b q n r g cg : Nat) (G Cc : Nat → Nat) (T : Nat → Nat → Nat) (Y : Nat → Nat) : Prop where
  head : Blk w zl 41 (hdX q r (fun i => .slice (some ⟨G i, 0, none⟩) n (Cc i)) (.slice (some ⟨g, 0, none⟩) n cg))
  row : ∀ i, i < r → (zl < G i ∧ G i ≠ g) ∧ RowG w (G i) n (T i)
  cur : zl < g ∧ RowG w g n Y
  fld : Fld w b
  only : Only b w0 w
  base : w0.heap.size ≤ zl ∧ b < w0.heap.size
theorem LeftMid.drew {g cg : Nat} {Y : Nat → Nat} (h : LeftMid w0 w zl b q n r g cg G Cc T Y) : LeftMid w0 w.drew zl b q n r g cg G Cc T Y := ⟨h.head, h.row, h.cur, h.fld, h.only.drew, h.base⟩
theorem LeftMid.step {g cg : Nat} {Y Y' : Nat → Nat} (h : LeftMid w0 w zl b q n r g cg G Cc T Y) (hf : Fld w' b) (hg : RowG w' g n Y') (ho : Only2 b g w w') (hgn : w0.heap.size ≤ g) : LeftMid w0 w' zl b q n r g cg G Cc T Y' := by
  have hb := h.base
  have hc := h.cur.1
  refine ⟨(ho.block zl h.head.lt (by omega) (by omega)).trans h.head, fun i hi => ⟨(h.row i hi).1, (h.row i hi).2.heap (ho.block _ (h.row i hi).2.lt (by have := (h.row i hi).1.1; omega) (h.row i hi).1.2)⟩, ⟨hc, hg⟩, hf, ?_, hb⟩
  exact ⟨ho.os.trans h.only.os, ho.tape.trans h.only.tape, ho.output.trans h.only.output, Nat.le_trans h.only.size ho.size, fun i hi hne => (ho.block i (Nat.lt_of_lt_of_le hi h.only.size) (fun e => hne (by rw [e])) (by omega)).trans (h.only.block i hi hne)⟩
theorem LeftMid.done {g cg : Nat} {Y : Nat → Nat} (h : LeftMid w0 w zl b q n r g cg G Cc T Y) : LeftAt w0 w zl b q n (r + 1) (fun i => if i = r then g else G i) (fun i => if i = r then cg else Cc i) (fun i => if i = r then Y else T i) := by
  refine ⟨?_, fun i hi => ?_, h.fld, h.only, h.base⟩
  · have e : hdX q r (fun i => .slice (some ⟨G i, 0, none⟩) n (Cc i)) (.slice (some ⟨g, 0, none⟩) n cg) = hdX q (r + 1) (fun i => .slice (some ⟨if i = r then g else G i, 0, none⟩) n (if i = r then cg else Cc i)) (.slice none 0 0) := by
      rw [hdX_next]
      congr 1
      funext i
      by_cases e : i = r
      · rw [if_pos e, if_pos e, if_pos e]
      · rw [if_neg e, if_neg e, if_neg e]
    exact e ▸ h.head
  · show zl < (if i = r then g else G i) ∧ RowG w (if i = r then g else G i) n (if i = r then Y else T i)
    by_cases e : i = r
    · rw [if_pos e, if_pos e]; exact h.cur
    · rw [if_neg e, if_neg e]
      exact ⟨(h.row i (by omega)).1.1, (h.row i (by omega)).2⟩
end
/-- y parities are put back to all missing columns, one more to the first x -/
structure MendAt (wl w : World) (base h0 c k q n b y x : Nat) (H : Nat → Hd) (R l j : Nat → Nat) (X T C XX : Nat → Nat → Nat) : Prop where
  cols : Cols w base (.slice (some ⟨h0, 0, none⟩) (k + 3) c) (k + 3) n H R XX
  lost : ∀ x', x' < q → XX (l x') = fun v => M.xsum (if x' < x then y + 1 else y) (fun r => M.gmul (C r x') (T r v))
  other : ∀ i, i < k + 3 → (∀ x', x' < q → l x' ≠ i) → XX i = X i
  fld : Fld w b
  only : OnlyL b (k + 3) R wl w
section
variable {wl w w' : World} {base h0 c k q n b y x : Nat} {H : Nat → Hd} {R l j : Nat → Nat} {X T C XX : Nat → Nat → Nat}
theorem MendAt.drew (h : MendAt wl w base h0 c k q n b y x H R l j X T C XX) : MendAt wl w.drew base h0 c k q n b y x H R l j X T C XX := ⟨h.cols.drew, h.lost, h.other, h.fld, h.only.drew⟩
theorem MendAt.step (h : MendAt wl w base h0 c k q n b y x H R l j X T C XX) (hx : x < q) (linc : ∀ x y, x < y → y < q → l x < l y) (llt : ∀ x, x < q → l x < k) (hxx : x < q ∨ True) (hf : Fld w' b) (hg : RowG w' (R (l x)) n (fun v => XX (l x) v ^^^ M.gmul (C y x) (T y v))) (ho : Only2 b (R (l x)) w w') :
    MendAt wl w' base h0 c k q n b y (x + 1) H R l j X T C (fun i => if i = l x then (fun v => XX (l x) v ^^^ M.gmul (C y x) (T y v)) else XX i) := by
  have hlx := llt x hx
  refine ⟨h.cols.turn h.fld (by omega) hg ho, fun x' hx' => ?_, fun i hi hne => ?_, hf, h.only.trans (OnlyL.of_only2 ho (by omega))⟩
  · show (if l x' = l x then _ else XX (l x')) = _
    by_cases e : x' = x
    · subst e
      rw [if_pos rfl, if_pos (by omega), h.lost x' hx', if_neg (by omega)]
      rfl
    · have hne : l x' ≠ l x := by
        by_cases e2 : x' < x
        · have := linc x' x e2 hx; omega
        · have := linc x x' (by omega) hx'; omega
      rw [if_neg hne, h.lost x' hx']
      by_cases e2 : x' < x
      · rw [if_pos e2, if_pos (by omega)]
      · rw [if_neg e2, if_neg (by omega)]
  · show (if i = l x then _ else XX i) = _
    rw [if_neg (fun e => hne x hx e.symm)]
    exact h.other i hi hne
theorem MendAt.next (h : MendAt wl w base h0 c k q n b y q H R l j X T C XX) : MendAt wl w base h0 c k q n b (y + 1) 0 H R l j X T C XX :=
  ⟨h.cols, fun x' hx' => by rw [h.lost x' hx', if_pos hx', if_neg (by omega)], h.other, h.fld, h.only⟩
theorem MendAt.share (h : MendAt wl w base h0 c k q n b y 0 H R l j X T C XX) (Z : Nat → Nat) : MendAt wl w base h0 c k q n b y 0 H R l j X T (fun r => if r = y then Z else C r) XX :=
  ⟨h.cols, fun x' hx' => by
    rw [h.lost x' hx', if_neg (by omega)]
    funext v
    refine M.xsum_congr fun r hr => ?_
    rw [if_neg (by omega)], h.other, h.fld, h.only⟩
end
/-- what the columns are for 'mendData' -/
structure MendIn (w : World) (base h0 c k q n b : Nat) (H : Nat → Hd) (R l j : Nat → Nat) (X D : Nat → Nat → Nat) : Prop where
  cols : Cols w base (.slice (some ⟨h0, 0, none⟩) (k + 3) c) (k + 3) n H R X
  cap : k + 3 ≤ c ∧ c ≤ maxLen
  xlt : ∀ i, i < k + 3 → ∀ v, v < n → X i v < 256
  dlt : ∀ i, i < k → ∀ v, v < n → D i v < 256
  good : ∀ i, i < k → (∀ x, x < q → l x ≠ i) → ∀ v, v < n → X i v = D i v
  lost : ∀ x, x < q → ∀ v, v < n → X (l x) v = 0
  pars : ∀ x, x < q → ∀ v, v < n → X (k + j x) v = M.par k (j x) D v
  linc : ∀ x y, x < y → y < q → l x < l y
  llt : ∀ x, x < q → l x < k
  jinc : ∀ x y, x < y → y < q → j x < j y
  jlt : ∀ x, x < q → j x < 3
end Go.Proofs.YtkbndlnmbbbohaaGreatDoor
namespace Go.Proofs.YtkbndlnmbbbohaaGreatDoor
open Go Go.RowKit
set_option maxRecDepth 100000
set_option linter.unusedVariables false

theorem RdZ.sub {w : World} {B n c lo : Nat} {A : Option Addr} {x : Nat → Int} (h : RdZ w B A n x) (hc : n ≤ c) : RdZ w B (subA A c lo) (n - lo) (fun j => x (lo + j)) := fun j hj => by
  obtain ⟨b, o, rfl, h2, h3⟩ := h (lo + j) (by omega)
  refine ⟨b, o + lo, ?_, h2, by rw [Nat.add_assoc]; exact h3⟩
  unfold subA
  rw [if_neg (by omega)]
  simp [add_plain]
theorem RdZ.take {w : World} {B n c m : Nat} {A : Option Addr} {x : Nat → Int} (h : RdZ w B A n x) (hm : m ≤ n) : RdZ w B (subA A c 0) m x := fun j hj => by
  obtain ⟨b, o, rfl, h2, h3⟩ := h j (by omega)
  refine ⟨b, o, ?_, h2, h3⟩
  unfold subA
  by_cases e : c = 0
  · rw [if_pos e]
  · rw [if_neg e]
    simp [add_plain]
/-- the call's own ints as they read -/
theorem own_ints {w : World} {B n : Nat} {v : Value} {l : List Nat} (h : w.ownsRow B 3 1 v n (natL l)) (hn : 0 < n) : ∃ g c, v = .slice (some ⟨g, 0, none⟩) n c ∧ B ≤ g ∧ n ≤ c ∧ ∀ i, i < n → w.cell? ⟨g, i, none⟩ = some (.int .i64 ((l.getD i 0 : Nat) : Int)) := by
  rcases h.2 with ⟨_, e⟩ | ⟨g, cap, cur, e, h1, hb, h2, h3, hs, ht⟩
  · have h0 := h.1
    rw [e] at h0
    simp at h0
    omega
  · refine ⟨g, cap, e, h1, h2, fun i hi => ?_⟩
    rw [cell_of_row _ _ _ _ _ _ hb]
    have hl : (natL l).length = n := by have := h.1; simpa using this
    have hl2 : i < l.length := by simp [natL] at hl; omega
    have e1 : (natL l)[i]? = some (.int .i64 ((l.getD i 0 : Nat) : Int)) := by simp [natL, hl2, List.getD_eq_getElem?_getD]
    rw [← ht, List.getElem?_take_of_lt (by omega), Array.getElem?_toList] at e1
    exact e1
theorem isB_of {m i : Nat} {b : Nat → Int} (h : isB m b i = true) : ∃ j, j < m ∧ b j = (i : Int) := by
  unfold isB at h
  rw [List.any_eq_true] at h
  obtain ⟨x, hx, e⟩ := h
  exact ⟨x, by simpa using hx, by simpa using e⟩
end Go.Proofs.YtkbndlnmbbbohaaGreatDoor
namespace Go.Proofs.YtkbndlnmbbbohaaGreatDoor
open Go Go.RowKit
set_option maxRecDepth 100000
set_option linter.unusedVariables false

/-- a parity that 'Rebuild' reads or makes anew: a bad one, or one of the first good ones, which stand for bad data -/
def Due (m k : Nat) (bz : Nat → Int) (j : Nat) : Prop := isB m bz (k + j) = true ∨ ∃ q x, q ≤ m ∧ (∀ i, i < q → bz i < (k : Int)) ∧ (∀ i, q ≤ i → i < m → (k : Int) ≤ bz i) ∧ x < q ∧ j = (sndL (m - q) (fun i => bz (q + i)) k 3).getD x 0
/-- i of the bad parities are made anew -/
structure ParsAt (w3 w : World) (base h0 c k n b m q i : Nat) (H : Nat → Hd) (R : Nat → Nat) (bz : Nat → Int) (D X : Nat → Nat → Nat) : Prop where
  cols : Cols w base (.slice (some ⟨h0, 0, none⟩) (k + 3) c) (k + 3) n H R X
  data : ∀ a, a < k → ∀ v, v < n → X a v = D a v
  pars : ∀ a, a < 3 → (isB m bz (k + a) = false ∨ ∃ x, x < i ∧ bz (q + x) = ((k + a : Nat) : Int)) → ∀ v, v < n → X (k + a) v = D (k + a) v
  rest : ∀ x, i ≤ x → q + x < m → ∀ v, v < n → X (bz (q + x)).toNat v = 0
  fld : Fld w b
  only : OnlyL b (k + 3) R w3 w
section
variable {w3 w w' : World} {base h0 c k n b m q i : Nat} {H : Nat → Hd} {R : Nat → Nat} {bz : Nat → Int} {D X : Nat → Nat → Nat} {N : Int}
theorem ParsAt.drew (h : ParsAt w3 w base h0 c k n b m q i H R bz D X) : ParsAt w3 w.drew base h0 c k n b m q i H R bz D X := ⟨h.cols.drew, h.data, h.pars, h.rest, h.fld, h.only.drew⟩
theorem ParsAt.step {a : Nat} (h : ParsAt w3 w base h0 c k n b m q i H R bz D X) (ha : a < 3) (hb : q + i < m ∧ bz (q + i) = ((k + a : Nat) : Int)) (hr : Rise m bz N) (hp : ∀ j, j < 3 → Due m k bz j → ∀ v, v < n → D (k + j) v = M.par k j D v) (hf : Fld w' b) (hg : RowG w' (R (k + a)) n (fun v => 0 ^^^ M.par k a X v)) (ho : Only2 b (R (k + a)) w w') :
    ParsAt w3 w' base h0 c k n b m q (i + 1) H R bz D (fun j => if j = k + a then (fun v => 0 ^^^ M.par k a X v) else X j) := by
  have hd : ∀ v, v < n → 0 ^^^ M.par k a X v = D (k + a) v := fun v hv => by
    rw [Nat.zero_xor, hp a ha (.inl (isB_true (j := q + i) hb.1 hb.2)) v hv]
    unfold M.par
    exact M.xsum_congr fun j hj => by rw [h.data j hj v hv]
  refine ⟨h.cols.turn h.fld (by omega) hg ho, fun j hj v hv => ?_, fun j hj hc v hv => ?_, fun x h1 h2 v hv => ?_, hf, h.only.trans (OnlyL.of_only2 ho (by omega))⟩
  · show (if j = k + a then _ else X j) v = _
    rw [if_neg (by omega)]
    exact h.data j hj v hv
  · show (if k + j = k + a then _ else X (k + j)) v = _
    by_cases e : j = a
    · subst e
      rw [if_pos rfl]
      exact hd v hv
    · rw [if_neg (by omega)]
      refine h.pars j hj ?_ v hv
      rcases hc with hc | ⟨x, hx, hc⟩
      · exact .inl hc
      · refine .inr ⟨x, ?_, hc⟩
        by_cases e2 : x = i
        · subst e2
          have := hb.2
          omega
        · omega
  · have h3 := hr.lt (show q + i < q + x by omega) h2
    show (if (bz (q + x)).toNat = k + a then _ else X (bz (q + x)).toNat) v = 0
    rw [if_neg (by have := hb.2; omega)]
    exact h.rest x (by omega) h2 v hv
end
end Go.Proofs.YtkbndlnmbbbohaaGreatDoor
namespace Go.Proofs.YtkbndlnmbbbohaaGreatDoor
open Go Go.RowKit
set_option maxRecDepth 100000
set_option linter.unusedVariables false

end Go.Proofs.YtkbndlnmbbbohaaGreatDoor
namespace Go.Proofs.YtkbndlnmbbbohaaGreatDoor
open Go Go.RowKit
set_option maxRecDepth 100000
set_option linter.unusedVariables false

/-- the numbers below t that are true -/
def trueL (f : Nat → Bool) (t : Nat) : List Nat := (List.range t).filter f
theorem owns_ne {w : World} {B base n m : Nat} {v u : Value} {xs : List Value} {H : Nat → Hd} (h : w.ownsRow B 3 1 v n xs) (ho : OwnS w base u m H) {g : Nat} (hg : u.ownBlock = some g) : v.ownBlock ≠ some g := fun e => by
  rcases h.2 with ⟨e1, _⟩ | ⟨g', cap, cur, e1, _, hb, _⟩
  · rw [e1] at e; cases e
  · rw [e1] at e
    simp [Value.ownBlock] at e
    subst e
    rcases ho with ⟨rfl, _⟩ | ⟨g2, cap2, cur2, fr, rfl, _, hb2, _⟩
    · cases hg
    · simp [Value.ownBlock] at hg
      subst hg
      rw [hb2] at hb
      injection hb with hb
      injection hb with _ hb _
      exact absurd hb (by decide)
/-- one head is stored -/
theorem OwnS.set {w : World} {base n g c i : Nat} {H : Nat → Hd} {a : Hd} (h : OwnS w base (.slice (some ⟨g, 0, none⟩) n c) n H) (hi : i < n) : OwnS (w.setCell ⟨g, i, none⟩ (hdV a)) base (.slice (some ⟨g, 0, none⟩) n c) n (fun j => if j = i then a else H j) := by
  rcases h with ⟨e, _⟩ | ⟨g', cap, cur, fr, e, hg, hb, h0, h1, h2, h3, h4⟩
  · cases e
  · injection e with e e2 e3
    injection e with e
    injection e with e e4
    subst e
    refine .inr ⟨g, cap, cur.setIfInBounds i (hdV a), fr, by rw [e3], hg, ?_, h0, h1, h2, by simpa using h3, fun j hj => ?_⟩
    · rw [setCell_eq_setRow w g i cur _ fr _ hb]
      exact setRow_heap w g cur _ _ fr hb
    · rw [Array.getElem?_setIfInBounds]
      have hi' : i < cur.size := by omega
      by_cases e : i = j
      · subst e
        rw [if_pos rfl, if_pos hi']
        show _ = some (hdV (if i = i then a else H i))
        rw [if_pos rfl]
      · rw [if_neg e]
        show _ = some (hdV (if j = i then a else H j))
        rw [if_neg (fun (q : j = i) => e q.symm)]
        exact h4 j hj
theorem OwnS.cells {w : World} {base n g c i : Nat} {H : Nat → Hd} (h : OwnS w base (.slice (some ⟨g, 0, none⟩) n c) n H) (hi : i < n) : w.cell? ⟨g, i, none⟩ = some (hdV (H i)) ∧ w.frozen? ⟨g, i, none⟩ = false := by
  rcases h with ⟨e, _⟩ | ⟨g', cap, cur, fr, e, hg, hb, h0, h1, h2, h3, h4⟩
  · cases e
  · injection e with e e2 e3
    injection e with e
    injection e with e e4
    subst e
    refine ⟨by rw [cell_of_row _ _ _ _ _ _ hb]; exact h4 i hi, ?_⟩
    unfold freeTail at h0
    simp only [World.frozen?, hb]
    simp
    omega
end Go.Proofs.YtkbndlnmbbbohaaGreatDoor
