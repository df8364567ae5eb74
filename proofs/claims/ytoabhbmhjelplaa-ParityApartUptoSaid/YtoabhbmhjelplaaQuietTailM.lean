/-
  A matrix in memory: a row of rows, each row in a block of its own; and 'field.pivot' over it. Conditions: the matrix is the call's own.
-/
import Derived.Test.YtoabhbmhjelplaaParDataM
import Derived.Test.YtoabhbmhjelplaaFieldGauss
import Derived.StillTail
import Derived.Deep.QuietTactic
namespace Go.Proofs.Ytoabhbmhjelplaa
open Go.RowKit
set_option maxRecDepth 100000
set_option linter.unusedVariables false

def hdArr (n m : Nat) (R : Nat → Nat) : Array Value := Array.ofFn (n := n) fun i => .slice (some ⟨R i.val, 0, none⟩) m m
theorem hdArr_get {n m : Nat} {R : Nat → Nat} {i : Nat} (h : i < n) : (hdArr n m R)[i]? = some (.slice (some ⟨R i, 0, none⟩) m m) := by simp [hdArr, h]
theorem hdArr_congr {n m : Nat} {f g : Nat → Nat} (h : ∀ c, c < n → f c = g c) : hdArr n m f = hdArr n m g := by
  unfold hdArr
  congr 1
  funext c
  rw [h c.val c.isLt]
theorem hdArr_set {n m : Nat} {R : Nat → Nat} {i r : Nat} (h : i < n) : (hdArr n m R).setIfInBounds i (.slice (some ⟨r, 0, none⟩) m m) = hdArr n m (fun j => if j = i then r else R j) := by
  apply Array.ext_getElem?
  intro j
  rw [Array.getElem?_setIfInBounds]
  have hs : (hdArr n m R).size = n := by simp [hdArr]
  rw [hs]
  by_cases hj : j < n
  · rw [hdArr_get hj, hdArr_get hj]
    by_cases e : i = j
    · rw [if_pos e, if_pos h, if_pos e.symm]
    · rw [if_neg e, if_neg (fun x => e x.symm)]
  · rw [if_neg (by omega), Array.getElem?_eq_none (by rw [hs]; omega), Array.getElem?_eq_none (by simp [hdArr]; omega)]

/-- The matrix: block bo holds the rows' heads, block 'R i' row i. -/
structure Mat (w : World) (bo n : Nat) (R : Nat → Nat) (m : Nat → Nat → Nat) : Prop where
  head : Blk w bo 31 (hdArr n (n + 1) R)
  row : ∀ i, i < n → Blk w (R i) 5 (rowArr (n + 1) (m i))
  inj : ∀ i j, i < n → j < n → R i = R j → i = j

section
variable {w w' : World} {bo n : Nat} {R : Nat → Nat} {m : Nat → Nat → Nat}
theorem Mat.headCell (h : Mat w bo n R m) {i : Nat} (hi : i < n) : w.cell? ⟨bo, i, none⟩ = some (.slice (some ⟨R i, 0, none⟩) (n + 1) (n + 1)) := (h.head.cell i).trans (hdArr_get hi)
theorem Mat.cell (h : Mat w bo n R m) {i j : Nat} (hi : i < n) (hj : j ≤ n) : w.cell? ⟨R i, j, none⟩ = some (.int .u8 ((m i j : Nat) : Int)) := ((h.row i hi).cell j).trans (rowArr_get (by omega))
theorem Mat.frozen (h : Mat w bo n R m) {i : Nat} (hi : i < n) (j : Nat) : w.frozen? ⟨R i, j, none⟩ = false := (h.row i hi).frozen j
theorem Mat.drewN (h : Mat w bo n R m) (k : Nat) : Mat (w.drewN k) bo n R m := ⟨h.head, h.row, h.inj⟩
theorem Mat.drew (h : Mat w bo n R m) : Mat w.drew bo n R m := ⟨h.head, h.row, h.inj⟩
theorem Mat.ne_ (h : Mat w bo n R m) {i : Nat} (hi : i < n) : bo ≠ R i := Blk.ne_ h.head (h.row i hi) (by decide)
theorem Mat.set_ (h : Mat w bo n R m) {i j v : Nat} (hi : i < n) (hj : j ≤ n) : Mat (w.setCell ⟨R i, j, none⟩ (.int .u8 ((v : Nat) : Int))) bo n R (fun a b => if a = i ∧ b = j then v else m a b) := by
  refine ⟨h.head.far (h.ne_ hi) _, fun a ha => ?_, h.inj⟩
  by_cases e : a = i
  · subst e
    have h1 := (h.row a ha).set_ j (.int .u8 ((v : Nat) : Int))
    rw [rowArr_set (by omega)] at h1
    have h2 : rowArr (n + 1) (fun b => if b = j then v else m a b) = rowArr (n + 1) (fun b => if a = a ∧ b = j then v else m a b) := rowArr_congr fun c _ => by simp
    rw [h2] at h1
    exact h1
  · have h1 := (h.row a ha).far (p := ⟨R i, j, none⟩) (fun x => e (h.inj a i ha hi x)) (.int .u8 ((v : Nat) : Int))
    have h2 : rowArr (n + 1) (m a) = rowArr (n + 1) (fun b => if a = i ∧ b = j then v else m a b) := rowArr_congr fun c _ => by rw [if_neg (fun x => e x.1)]
    rw [h2] at h1
    exact h1
theorem Mat.congr {m' : Nat → Nat → Nat} (h : Mat w bo n R m) (hm : ∀ i, i < n → ∀ j, j ≤ n → m i j = m' i j) : Mat w bo n R m' :=
  ⟨h.head, fun i hi => by rw [← rowArr_congr (fun c hc => hm i hi c (by omega))]; exact h.row i hi, h.inj⟩
end

/-- Only the rows have turned. -/
structure OnlyR (n : Nat) (R : Nat → Nat) (a w : World) : Prop where
  os : w.os = a.os
  tape : w.tape = a.tape
  output : w.output = a.output
  size : w.heap.size = a.heap.size
  block : ∀ q, (∀ i, i < n → q ≠ R i) → w.heap[q]? = a.heap[q]?
section
variable {a b c w : World} {n : Nat} {R : Nat → Nat}
theorem OnlyR.refl (n : Nat) (R : Nat → Nat) (w : World) : OnlyR n R w w := ⟨rfl, rfl, rfl, rfl, fun _ _ => rfl⟩
theorem OnlyR.trans (h : OnlyR n R a b) (k : OnlyR n R b c) : OnlyR n R a c :=
  ⟨k.os.trans h.os, k.tape.trans h.tape, k.output.trans h.output, k.size.trans h.size, fun q hq => (k.block q hq).trans (h.block q hq)⟩
theorem OnlyR.drewN (h : OnlyR n R a w) (k : Nat) : OnlyR n R a (w.drewN k) := ⟨h.os, h.tape, h.output, h.size, h.block⟩
theorem OnlyR.drew (h : OnlyR n R a w) : OnlyR n R a w.drew := ⟨h.os, h.tape, h.output, h.size, h.block⟩
theorem OnlyR.set_ (h : OnlyR n R a w) {i : Nat} (hi : i < n) (j : Nat) (u : Value) : OnlyR n R a (w.setCell ⟨R i, j, none⟩ u) :=
  ⟨h.os, h.tape, h.output, by simpa [World.setCell] using h.size, fun q hq => (Below.heap_setCell w ⟨R i, j, none⟩ u q (hq i hi)).trans (h.block q hq)⟩
theorem OnlyR.blk (h : OnlyR n R a w) {g : Nat} {t : TypeId} {cs : Array Value} (hg : Blk a g t cs) (hne : ∀ i, i < n → g ≠ R i) : Blk w g t cs := (h.block g hne).trans hg
theorem OnlyR.below (h : OnlyR n R a w) {B : Nat} (hB : ∀ i, i < n → B ≤ R i) : Below B a w :=
  ⟨h.os, h.tape, h.output, Nat.le_of_eq h.size.symm, fun k hk => h.block k fun i hi e => by have := hB i hi; omega⟩
end

set_option maxRecDepth 100000 in
set_option maxHeartbeats 400000 in
theorem pivot_yes (bo n k p : Nat) (R : Nat → Nat) (m : Nat → Nat → Nat) (w : World) (hn : n ≤ 8) (h : Mat w bo n R m) (hkp : k ≤ p) (hp : p < n) (hne : m p k ≠ 0) (hz : ∀ i, k ≤ i → i < p → m i k = 0) :
    Calls Try.prog 43 #[.slice (some ⟨bo, 0, none⟩) n n, .int .i64 k] w fun e w' => e = .returned (.int .i64 p) ∧ w = w' := by
  have H := Lib.hid h
  have HZ := Lib.hid hz
  have HN := Lib.hid hne
  clear h hz hne
  go_enter Try.func43, Try.ntmps43
  go_wp2
  go_loop [5] (fun x => ∃ i : Nat, k ≤ i ∧ i ≤ p ∧ x = .int .i64 i) (fun x => n - (intOf x).toNat)
  case atStart => exact ⟨k, by omega, hkp, rfl⟩
  case round =>
    obtain ⟨i, hki, hip, rfl⟩ := hrel
    have c1 := H.out.headCell (i := i) (by omega)
    have c2 := H.out.cell (i := i) (j := k) (by omega) (by omega)
    by_cases hlt : i < p
    · rw [HZ.out i hki hlt] at c2
      generalize R i = r at *
      go_wp2
      go_round
      case rel => exact ⟨i + 1, by omega, by omega, by go_num⟩
      case measure => simp [intOf]; omega
    · obtain rfl : i = p := by omega
      have hv : (((m i k : Nat) : Int) != 0) = true := by rw [bne_iff_ne]; have := HN.out; omega
      generalize R i = r at *
      generalize m i k = v at *
      go_wp2
      go_ret
      exact ⟨rfl, rfl⟩

set_option maxRecDepth 100000 in
set_option maxHeartbeats 400000 in
theorem pivot_no (bo n k : Nat) (R : Nat → Nat) (m : Nat → Nat → Nat) (w : World) (hn : n ≤ 8) (hk : k < n) (h : Mat w bo n R m) (hz : ∀ i, k ≤ i → i < n → m i k = 0) :
    Calls Try.prog 43 #[.slice (some ⟨bo, 0, none⟩) n n, .int .i64 k] w fun e w' => e = .returned (.int .i64 (-1)) ∧ w = w' := by
  have H := Lib.hid h
  have HZ := Lib.hid hz
  clear h hz
  go_enter Try.func43, Try.ntmps43
  go_wp2
  go_loop [5] (fun x => ∃ i : Nat, k ≤ i ∧ i ≤ n ∧ x = .int .i64 i) (fun x => n - (intOf x).toNat)
  case atStart => exact ⟨k, by omega, by omega, rfl⟩
  case round =>
    obtain ⟨i, hki, hip, rfl⟩ := hrel
    by_cases hlt : i < n
    · have c1 := H.out.headCell (i := i) (by omega)
      have c2 := H.out.cell (i := i) (j := k) (by omega) (by omega)
      rw [HZ.out i hki hlt] at c2
      generalize R i = r at *
      go_wp2
      go_round
      case rel => exact ⟨i + 1, by omega, by omega, by go_num⟩
      case measure => simp [intOf]; omega
    · obtain rfl : i = n := by omega
      go_wp2
      go_ret
      exact ⟨rfl, rfl⟩
end Go.Proofs.Ytoabhbmhjelplaa
namespace Go.Proofs.Ytoabhbmhjelplaa
open Go

section
variable {P : Program} {ops : Array Oper} {md : Region.Mode} {C : World → Prop}

/-- The head, whatever order is picked: f operations of the first n come up, each quiet; then L. -/
def HeadQ (P : Program) (md : Region.Mode) (ops : Array Oper) (C : World → Prop) (n : Nat) (L : Array Bool → Act → Prop) : Nat → Array Bool → Act → Prop
  | 0, listed, a => L listed a
  | f + 1, listed, a => Region.ready md ops listed ≠ [] ∧ ∀ i ∈ Region.ready md ops listed, i < n ∧ qOp P ops C i (HeadQ P md ops C n L f (listed.setIfInBounds i true)) a

theorem any_of_headQ {n g : Nat} {L : Array Bool → Act → Prop} {Q' : Exit → Act → World → Prop} (hL : ∀ listed a w, C w → L listed a → wpAny P md ops Q' g listed a w) :
    ∀ (f : Nat) (listed : Array Bool) (a : Act) (w : World), C w → HeadQ P md ops C n L f listed a → wpAny P md ops Q' (f + g) listed a w := by
  intro f
  induction f with
  | zero =>
    intro listed a w hC h
    rw [Nat.zero_add]
    exact hL _ _ _ hC h
  | succ f ih =>
    intro listed a w hC h
    have e : f + 1 + g = (f + g) + 1 := by omega
    rw [e]
    refine ⟨fun h0 => absurd h0 h.1, fun i hi => ?_⟩
    exact wpOp_of_qOp hC (fun a' w' hw' h' => ih _ a' w' hw' h') (h.2 i hi).2

theorem headQ_first {n i : Nat} {oi : Oper} {v : Value} {L : Array Bool → Act → Prop} (hi : ops[i]? = some oi) (hsel : ∀ (j : Nat) (o : Oper) cs b, ops[j]? = some o → o.op ≠ .select cs b)
    (hs : Region.sinkB md ops n = true) (hc : Region.chainB md ops n = true) (hn : n < ops.size) (hin : i < n)
    (hdone : ∀ listed a, L listed a → ∀ j ∈ Region.ready md ops listed, n ≤ j) :
    ∀ (f : Nat) (listed : Array Bool) (a : Act), HeadInv md ops n listed →
      (∀ j oj, ops[j]? = some oj → j ≠ i → listed.getD j true = false → (∀ e ∈ oj.after, Region.binds md e = true → e.on ≠ i) → oi.apart ops oj = true) →
      i ∈ Region.ready md ops listed → YieldsIn P ops C oi v a →
      HeadQ P md ops C n L f (listed.setIfInBounds i true) (a.put oi.dst v) → HeadQ P md ops C n L (f + 1) listed a := by
  intro f
  induction f with
  | zero =>
    intro listed a inv _ hr hy H
    have hun := (mem_ready.1 hr).1
    refine ⟨fun h => (by rw [h] at hr; cases hr), fun j hj => ?_⟩
    have hjn : j < n := by
      rcases Nat.lt_or_ge j n with h | h
      · exact h
      · exact absurd hj (tail_waits hs hc hn inv _ i rfl hin hun j h)
    refine ⟨hjn, ?_⟩
    by_cases hji : j = i
    · subst hji
      exact hy.qOp hi H
    · have h3 := hdone _ _ H j (ready_mono hj hji)
      omega
  | succ f ih =>
    intro listed a inv hfree hr hy H
    have hun := (mem_ready.1 hr).1
    refine ⟨fun h => (by rw [h] at hr; cases hr), fun j hj => ?_⟩
    have hjn : j < n := by
      rcases Nat.lt_or_ge j n with h | h
      · exact h
      · exact absurd hj (tail_waits hs hc hn inv _ i rfl hin hun j h)
    refine ⟨hjn, ?_⟩
    by_cases hji : j = i
    · subst hji
      exact hy.qOp hi H
    · have h1 := (H.2 j (ready_mono hj hji)).2
      obtain ⟨hjun, oj, hoj, hall⟩ := mem_ready.1 hj
      have hnot : ∀ e ∈ oj.after, Region.binds md e = true → e.on ≠ i := fun e he hb heq => by
        have h4 := hall e he hb
        rw [heq, getD_both hun] at h4
        cases h4
      have h2 := qOp_put hoj (hfree j oj hoj hji hjun hnot) (fun cs b => hsel i oi cs b hi) (fun cs b => hsel j oj cs b hoj) hy h1
      refine qOp_mono (fun a' h3 => ih (listed.setIfInBounds j true) a' (inv.set hj hjn) (fun k ok hk hki hunk hno => ?_) (ready_mono hr (Ne.symm hji)) h3.1 ?_) h2
      · refine hfree k ok hk hki ?_ hno
        by_cases hjk : j = k
        · subst hjk
          exact hjun
        · rw [getD_set_ne true hjk] at hunk
          exact hunk
      · rw [Array.setIfInBounds_comm _ _ hji]
        exact h3.2

theorem headQ_lex {n g : Nat} {Lq : Act → Prop} (hsel : Region.noSelect ops = true) (hs : Region.sinkB md ops n = true) (hc : Region.chainB md ops n = true) (hn : n < ops.size) :
    ∀ (l : List Oper) (k : Nat) (listed : Array Bool) (a : Act), (∀ j, j < l.length → l[j]? = ops[k + j]?) → k + l.length = n → HeadInv md ops n listed →
    Region.lexHead md ops g l.length k listed = true → wpQuiet P ops C Lq l a →
    HeadQ P md ops C n (fun listed' a' => Region.seqB md ops g n listed' = true ∧ Lq a') l.length listed a := by
  intro l
  induction l with
  | nil =>
    intro k listed a _ hk _ hB h
    have e : k = n := by simpa using hk
    subst e
    exact ⟨by simpa [Region.lexHead] using hB, h⟩
  | cons o l ih =>
    intro k listed a hl hk inv hB h
    have h0 : ops[k]? = some o := by simpa using (hl 0 (by simp)).symm
    simp only [List.length_cons, Region.lexHead, Bool.and_eq_true] at hB
    obtain ⟨⟨hr, hf⟩, hB'⟩ := hB
    have hkn : k < n := by simp only [List.length_cons] at hk; omega
    have hr' : k ∈ Region.ready md ops listed := by simpa using hr
    have hst : qOp P ops C k (wpQuiet P ops C Lq l) a := by unfold qOp; simp only [h0]; exact h
    obtain ⟨v, hy, hK⟩ := yieldsIn_of_qOp h0 hst
    refine headQ_first h0 (Region.noSelect_spec hsel) hs hc hn hkn (fun listed' a' hL => seqB_ready hL.1) l.length listed a inv (Region.free_spec h0 hf) hr' hy ?_
    refine ih (k + 1) _ _ (fun j hj => ?_) (by simp only [List.length_cons] at hk; omega) (inv.set hr' hkn) hB' hK
    have h5 := hl (j + 1) (by simp; omega)
    simpa [Nat.add_assoc, Nat.add_comm 1 j] using h5

/-- The region: n operations that read or call quietly, then the others one by one. -/
theorem region_quiet_tail {id : Nat} {Q : Exit → Act → World → Prop} {a : Act} {w : World} {l : List Oper} (n : Nat) (hm : P.follows .mixedOrders = true) (hB : Region.lexTailB .any l.toArray n = true)
    (h : wpQuiet P l.toArray (fun w' => ∃ k, w' = w.drewN k) (fun a' => ∀ w', (∃ k, w' = w.drewN k) → wpList P l.toArray Q (l.drop n) a' w') (l.take n) a) : (Code.region id l.toArray true).wp P Q a w := by
  simp only [Region.lexTailB, Bool.and_eq_true, decide_eq_true_eq] at hB
  obtain ⟨⟨⟨⟨hsel, hn⟩, hs⟩, hc⟩, hlex⟩ := hB
  have hn' : n < l.length := by simpa using hn
  have htl : (l.take n).length = n := by simp; omega
  have hdl : (l.drop n).length = l.toArray.size - n := by simp
  have inv0 : HeadInv .any l.toArray n (Array.replicate l.toArray.size false) :=
    ⟨by simp, fun j oj _ hl => (by rw [getD_replicate_false] at hl; cases hl), fun t _ ht => getD_in (by simpa using ht) (getD_replicate_false _ _)⟩
  have H := headQ_lex (md := .any) (g := l.toArray.size - n) hsel hs hc hn (l.take n) 0 _ a (fun j hj => by
    have hj' : j < n := by rw [htl] at hj; exact hj
    simp [hj']) (by simpa using htl) inv0 (by rw [htl]; exact hlex) h
  refine wp_region_any hm ?_
  have h6 := any_of_headQ (Q' := Q) (g := l.toArray.size - n) (fun listed a' w' hC hL => by
    have h7 := wpAny_of_seq (md := .any) (Q' := Q) (l.drop n) n listed a' w' (fun j => by simp [List.getElem?_drop]) (by rw [hdl]; exact hL.1) (hL.2 w' hC)
    rwa [hdl] at h7) _ _ _ { w with drawn := w.drawn + 1 } ⟨1, rfl⟩ H
  rw [htl, show n + (l.toArray.size - n) = l.toArray.size by omega] at h6
  exact h6
end
end Go.Proofs.Ytoabhbmhjelplaa
