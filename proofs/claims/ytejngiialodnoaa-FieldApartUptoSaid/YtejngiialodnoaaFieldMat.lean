/-
  A matrix in memory: a row of rows, each row in a block of its own; and 'field.pivot' over it. Conditions: the matrix is the call's own.
-/
import Derived.Test.YtejngiialodnoaaFieldSquare
import Derived.Test.YtejngiialodnoaaFieldGauss
namespace Go.Proofs.Ytejngiialodnoaa
open Go.RowKit
set_option maxRecDepth 100000
set_option linter.unusedVariables false

def hdArr (n m : Nat) (R : Nat → Nat) : Array Value := Array.ofFn (n := n) fun i => .slice (some ⟨R i.val, 0, none⟩) m m
theorem hdArr_get {n m : Nat} {R : Nat → Nat} {i : Nat} (h : i < n) : (hdArr n m R)[i]? = some (.slice (some ⟨R i, 0, none⟩) m m) := by simp [hdArr, h]
theorem hdArr_congr {n m : Nat} {f g : Nat → Nat} (h : ∀ c, c < n → f c = g c) : hdArr n m f = hdArr n m g := by
  unfold hdArr
  congr 1
  funext c
  rw [h c.val c.isLt]
theorem hdArr_set {n m : Nat} {R : Nat → Nat} {i r : Nat} (h : i < n) : (hdArr n m R).setIfInBounds i (.slice (some ⟨r, 0, none⟩) m m) = hdArr n m (fun j => if j = i then r else R j) := by
  apply Array.ext_getElem?
  intro j
  rw [Array.getElem?_setIfInBounds]
  have hs : (hdArr n m R).size = n := by simp [hdArr]
  rw [hs]
  by_cases hj : j < n
  · rw [hdArr_get hj, hdArr_get hj]
    by_cases e : i = j
    · rw [if_pos e, if_pos h, if_pos e.symm]
    · rw [if_neg e, if_neg (fun x => e x.symm)]
  · rw [if_neg (by omega), Array.getElem?_eq_none (by rw [hs]; omega), Array.getElem?_eq_none (by simp [hdArr]; omega)]

/-- The matrix: block bo holds the rows' heads, block 'R i' row i. -/
structure Mat (w : World) (bo n : Nat) (R : Nat → Nat) (m : Nat → Nat → Nat) : Prop where
  head : Blk w bo 37 (hdArr n (n + 1) R)
  row : ∀ i, i < n → Blk w (R i) 5 (rowArr (n + 1) (m i))
  inj : ∀ i j, i < n → j < n → R i = R j → i = j

section
variable {w w' : World} {bo n : Nat} {R : Nat → Nat} {m : Nat → Nat → Nat}
theorem Mat.headCell (h : Mat w bo n R m) {i : Nat} (hi : i < n) : w.cell? ⟨bo, i, none⟩ = some (.slice (some ⟨R i, 0, none⟩) (n + 1) (n + 1)) := (h.head.cell i).trans (hdArr_get hi)
theorem Mat.cell (h : Mat w bo n R m) {i j : Nat} (hi : i < n) (hj : j ≤ n) : w.cell? ⟨R i, j, none⟩ = some (.int .u8 ((m i j : Nat) : Int)) := ((h.row i hi).cell j).trans (rowArr_get (by omega))
theorem Mat.frozen (h : Mat w bo n R m) {i : Nat} (hi : i < n) (j : Nat) : w.frozen? ⟨R i, j, none⟩ = false := (h.row i hi).frozen j
theorem Mat.drewN (h : Mat w bo n R m) (k : Nat) : Mat (w.drewN k) bo n R m := ⟨h.head, h.row, h.inj⟩
theorem Mat.drew (h : Mat w bo n R m) : Mat w.drew bo n R m := ⟨h.head, h.row, h.inj⟩
theorem Mat.ne_ (h : Mat w bo n R m) {i : Nat} (hi : i < n) : bo ≠ R i := Blk.ne_ h.head (h.row i hi) (by decide)
theorem Mat.set_ (h : Mat w bo n R m) {i j v : Nat} (hi : i < n) (hj : j ≤ n) : Mat (w.setCell ⟨R i, j, none⟩ (.int .u8 ((v : Nat) : Int))) bo n R (fun a b => if a = i ∧ b = j then v else m a b) := by
  refine ⟨h.head.far (h.ne_ hi) _, fun a ha => ?_, h.inj⟩
  by_cases e : a = i
  · subst e
    have h1 := (h.row a ha).set_ j (.int .u8 ((v : Nat) : Int))
    rw [rowArr_set (by omega)] at h1
    have h2 : rowArr (n + 1) (fun b => if b = j then v else m a b) = rowArr (n + 1) (fun b => if a = a ∧ b = j then v else m a b) := rowArr_congr fun c _ => by simp
    rw [h2] at h1
    exact h1
  · have h1 := (h.row a ha).far (p := ⟨R i, j, none⟩) (fun x => e (h.inj a i ha hi x)) (.int .u8 ((v : Nat) : Int))
    have h2 : rowArr (n + 1) (m a) = rowArr (n + 1) (fun b => if a = i ∧ b = j then v else m a b) := rowArr_congr fun c _ => by rw [if_neg (fun x => e x.1)]
    rw [h2] at h1
    exact h1
theorem Mat.congr {m' : Nat → Nat → Nat} (h : Mat w bo n R m) (hm : ∀ i, i < n → ∀ j, j ≤ n → m i j = m' i j) : Mat w bo n R m' :=
  ⟨h.head, fun i hi => by rw [← rowArr_congr (fun c hc => hm i hi c (by omega))]; exact h.row i hi, h.inj⟩
end

/-- Only the rows have turned. -/
structure OnlyR (n : Nat) (R : Nat → Nat) (a w : World) : Prop where
  os : w.os = a.os
  tape : w.tape = a.tape
  output : w.output = a.output
  size : w.heap.size = a.heap.size
  block : ∀ q, (∀ i, i < n → q ≠ R i) → w.heap[q]? = a.heap[q]?
section
variable {a b c w : World} {n : Nat} {R : Nat → Nat}
theorem OnlyR.refl (n : Nat) (R : Nat → Nat) (w : World) : OnlyR n R w w := ⟨rfl, rfl, rfl, rfl, fun _ _ => rfl⟩
theorem OnlyR.trans (h : OnlyR n R a b) (k : OnlyR n R b c) : OnlyR n R a c :=
  ⟨k.os.trans h.os, k.tape.trans h.tape, k.output.trans h.output, k.size.trans h.size, fun q hq => (k.block q hq).trans (h.block q hq)⟩
theorem OnlyR.drewN (h : OnlyR n R a w) (k : Nat) : OnlyR n R a (w.drewN k) := ⟨h.os, h.tape, h.output, h.size, h.block⟩
theorem OnlyR.drew (h : OnlyR n R a w) : OnlyR n R a w.drew := ⟨h.os, h.tape, h.output, h.size, h.block⟩
theorem OnlyR.set_ (h : OnlyR n R a w) {i : Nat} (hi : i < n) (j : Nat) (u : Value) : OnlyR n R a (w.setCell ⟨R i, j, none⟩ u) :=
  ⟨h.os, h.tape, h.output, by simpa [World.setCell] using h.size, fun q hq => (Below.heap_setCell w ⟨R i, j, none⟩ u q (hq i hi)).trans (h.block q hq)⟩
theorem OnlyR.blk (h : OnlyR n R a w) {g : Nat} {t : TypeId} {cs : Array Value} (hg : Blk a g t cs) (hne : ∀ i, i < n → g ≠ R i) : Blk w g t cs := (h.block g hne).trans hg
theorem OnlyR.below (h : OnlyR n R a w) {B : Nat} (hB : ∀ i, i < n → B ≤ R i) : Below B a w :=
  ⟨h.os, h.tape, h.output, Nat.le_of_eq h.size.symm, fun k hk => h.block k fun i hi e => by have := hB i hi; omega⟩
end

set_option maxRecDepth 100000 in
set_option maxHeartbeats 400000 in
theorem pivot_yes (bo n k p : Nat) (R : Nat → Nat) (m : Nat → Nat → Nat) (w : World) (hn : n ≤ 8) (h : Mat w bo n R m) (hkp : k ≤ p) (hp : p < n) (hne : m p k ≠ 0) (hz : ∀ i, k ≤ i → i < p → m i k = 0) :
    Calls Try.prog 29 #[.slice (some ⟨bo, 0, none⟩) n n, .int .i64 k] w fun e w' => e = .returned (.int .i64 p) ∧ w = w' := by
  have H := Lib.hid h
  have HZ := Lib.hid hz
  have HN := Lib.hid hne
  clear h hz hne
  go_enter Try.func29, Try.ntmps29
  go_wp2
  go_loop [5] (fun x => ∃ i : Nat, k ≤ i ∧ i ≤ p ∧ x = .int .i64 i) (fun x => n - (intOf x).toNat)
  case atStart => exact ⟨k, by omega, hkp, rfl⟩
  case round =>
    obtain ⟨i, hki, hip, rfl⟩ := hrel
    have c1 := H.out.headCell (i := i) (by omega)
    have c2 := H.out.cell (i := i) (j := k) (by omega) (by omega)
    by_cases hlt : i < p
    · rw [HZ.out i hki hlt] at c2
      generalize R i = r at *
      go_wp2
      go_round
      case rel => exact ⟨i + 1, by omega, by omega, by go_num⟩
      case measure => simp [intOf]; omega
    · obtain rfl : i = p := by omega
      have hv : (((m i k : Nat) : Int) != 0) = true := by rw [bne_iff_ne]; have := HN.out; omega
      generalize R i = r at *
      generalize m i k = v at *
      go_wp2
      go_ret
      exact ⟨rfl, rfl⟩

set_option maxRecDepth 100000 in
set_option maxHeartbeats 400000 in
theorem pivot_no (bo n k : Nat) (R : Nat → Nat) (m : Nat → Nat → Nat) (w : World) (hn : n ≤ 8) (hk : k < n) (h : Mat w bo n R m) (hz : ∀ i, k ≤ i → i < n → m i k = 0) :
    Calls Try.prog 29 #[.slice (some ⟨bo, 0, none⟩) n n, .int .i64 k] w fun e w' => e = .returned (.int .i64 (-1)) ∧ w = w' := by
  have H := Lib.hid h
  have HZ := Lib.hid hz
  clear h hz
  go_enter Try.func29, Try.ntmps29
  go_wp2
  go_loop [5] (fun x => ∃ i : Nat, k ≤ i ∧ i ≤ n ∧ x = .int .i64 i) (fun x => n - (intOf x).toNat)
  case atStart => exact ⟨k, by omega, by omega, rfl⟩
  case round =>
    obtain ⟨i, hki, hip, rfl⟩ := hrel
    by_cases hlt : i < n
    · have c1 := H.out.headCell (i := i) (by omega)
      have c2 := H.out.cell (i := i) (j := k) (by omega) (by omega)
      rw [HZ.out i hki hlt] at c2
      generalize R i = r at *
      go_wp2
      go_round
      case rel => exact ⟨i + 1, by omega, by omega, by go_num⟩
      case measure => simp [intOf]; omega
    · obtain rfl : i = n := by omega
      go_wp2
      go_ret
      exact ⟨rfl, rfl⟩
end Go.Proofs.Ytejngiialodnoaa
