/-
 A region that draws its order, whose first n operations read or call quietly and whose others stand in one forced order behind them: one walk of the order of the text serves every order. Conditions: the two closed facts that the theorem asks of the region, and that the program follows every order.
-/
import Derived.StillTail
import Derived.Deep.QuietTactic
import Derived.Test.YtgbehfkimchglaaGreatDoorRackAt
import Derived.Lib.Hide
import Derived.BigQuiet
namespace Go.Proofs.YtgbehfkimchglaaGreatDoor
set_option maxRecDepth 100000
open Go
section
variable {P : Program} {ops : Array Oper} {md : Region.Mode} {C : World → Prop}
def HeadQ (P : Program) (md : Region.Mode) (ops : Array Oper) (C : World → Prop) (n : Nat) (L : Array Bool → Act → Prop) : Nat → Array Bool → Act → Prop
 | 0, listed, a => L listed a
 | f + 1, listed, a => Region.ready md ops listed ≠ [] ∧ ∀ i ∈ Region.ready md ops listed, i < n ∧ qOp P ops C i (HeadQ P md ops C n L f (listed.setIfInBounds i true)) a
theorem any_of_headQ {n g : Nat} {L : Array Bool → Act → Prop} {Q' : Exit → Act → World → Prop} (hL : ∀ listed a w, C w → L listed a → wpAny P md ops Q' g listed a w) :
  ∀ (f : Nat) (listed : Array Bool) (a : Act) (w : World), C w → HeadQ P md ops C n L f listed a → wpAny P md ops Q' (f + g) listed a w := by
 intro f
 induction f with
 | zero =>
  intro listed a w hC h
  rw [Nat.zero_add]
  exact hL _ _ _ hC h
 | succ f ih =>
  intro listed a w hC h
  have e : f + 1 + g = (f + g) + 1 := by omega
  rw [e]
  refine ⟨fun h0 => absurd h0 h.1, fun i hi => ?_⟩
  exact wpOp_of_qOp hC (fun a' w' hw' h' => ih _ a' w' hw' h') (h.2 i hi).2
theorem headQ_first {n i : Nat} {oi : Oper} {v : Value} {L : Array Bool → Act → Prop} (hi : ops[i]? = some oi) (hsel : ∀ (j : Nat) (o : Oper) cs b, ops[j]? = some o → o.op ≠ .select cs b)
  (hs : Region.sinkB md ops n = true) (hc : Region.chainB md ops n = true) (hn : n < ops.size) (hin : i < n)
  (hdone : ∀ listed a, L listed a → ∀ j ∈ Region.ready md ops listed, n ≤ j) :
  ∀ (f : Nat) (listed : Array Bool) (a : Act), HeadInv md ops n listed →
   (∀ j oj, ops[j]? = some oj → j ≠ i → listed.getD j true = false → (∀ e ∈ oj.after, Region.binds md e = true → e.on ≠ i) → oi.apart ops oj = true) →
   i ∈ Region.ready md ops listed → YieldsIn P ops C oi v a →
   HeadQ P md ops C n L f (listed.setIfInBounds i true) (a.put oi.dst v) → HeadQ P md ops C n L (f + 1) listed a := by
 intro f
 induction f with
 | zero =>
  intro listed a inv _ hr hy H
  have hun := (mem_ready.1 hr).1
  refine ⟨fun h => (by rw [h] at hr; cases hr), fun j hj => ?_⟩
  have hjn : j < n := by
   rcases Nat.lt_or_ge j n with h | h
   ·exact h
   ·exact absurd hj (tail_waits hs hc hn inv _ i rfl hin hun j h)
  refine ⟨hjn, ?_⟩
  by_cases hji : j = i
  ·subst hji
   exact hy.qOp hi H
  ·have h3 := hdone _ _ H j (ready_mono hj hji)
   omega
 | succ f ih =>
  intro listed a inv hfree hr hy H
  have hun := (mem_ready.1 hr).1
  refine ⟨fun h => (by rw [h] at hr; cases hr), fun j hj => ?_⟩
  have hjn : j < n := by
   rcases Nat.lt_or_ge j n with h | h
   ·exact h
   ·exact absurd hj (tail_waits hs hc hn inv _ i rfl hin hun j h)
  refine ⟨hjn, ?_⟩
  by_cases hji : j = i
  ·subst hji
   exact hy.qOp hi H
  ·have h1 := (H.2 j (ready_mono hj hji)).2
   obtain ⟨hjun, oj, hoj, hall⟩ := mem_ready.1 hj
   have hnot : ∀ e ∈ oj.after, Region.binds md e = true → e.on ≠ i := fun e he hb heq => by
    have h4 := hall e he hb
    rw [heq, getD_both hun] at h4
    cases h4
   have h2 := qOp_put hoj (hfree j oj hoj hji hjun hnot) (fun cs b => hsel i oi cs b hi) (fun cs b => hsel j oj cs b hoj) hy h1
   refine qOp_mono (fun a' h3 => ih (listed.setIfInBounds j true) a' (inv.set hj hjn) (fun k ok hk hki hunk hno => ?_) (ready_mono hr (Ne.symm hji)) h3.1 ?_) h2
   ·refine hfree k ok hk hki ?_ hno
    by_cases hjk : j = k
    ·subst hjk
     exact hjun
    ·rw [getD_set_ne true hjk] at hunk
     exact hunk
   ·rw [Array.setIfInBounds_comm _ _ hji]
    exact h3.2
theorem headQ_lex {n g : Nat} {Lq : Act → Prop} (hsel : Region.noSelect ops = true) (hs : Region.sinkB md ops n = true) (hc : Region.chainB md ops n = true) (hn : n < ops.size) :
  ∀ (l : List Oper) (k : Nat) (listed : Array Bool) (a : Act), (∀ j, j < l.length → l[j]? = ops[k + j]?) → k + l.length = n → HeadInv md ops n listed →
  Region.lexHead md ops g l.length k listed = true → wpQuiet P ops C Lq l a →
  HeadQ P md ops C n (fun listed' a' => Region.seqB md ops g n listed' = true ∧ Lq a') l.length listed a := by
 intro l
 induction l with
 | nil =>
  intro k listed a _ hk _ hB h
  have e : k = n := by simpa using hk
  subst e
  exact ⟨by simpa [Region.lexHead] using hB, h⟩
 | cons o l ih =>
  intro k listed a hl hk inv hB h
  have h0 : ops[k]? = some o := by simpa using (hl 0 (by simp)).symm
  simp only [List.length_cons, Region.lexHead, Bool.and_eq_true] at hB
  obtain ⟨⟨hr, hf⟩, hB'⟩ := hB
  have hkn : k < n := by simp only [List.length_cons] at hk; omega
  have hr' : k ∈ Region.ready md ops listed := by simpa using hr
  have hst : qOp P ops C k (wpQuiet P ops C Lq l) a := by unfold qOp; simp only [h0]; exact h
  obtain ⟨v, hy, hK⟩ := yieldsIn_of_qOp h0 hst
  refine headQ_first h0 (Region.noSelect_spec hsel) hs hc hn hkn (fun listed' a' hL => seqB_ready hL.1) l.length listed a inv (Region.free_spec h0 hf) hr' hy ?_
  refine ih (k + 1) _ _ (fun j hj => ?_) (by simp only [List.length_cons] at hk; omega) (inv.set hr' hkn) hB' hK
  have h5 := hl (j + 1) (by simp; omega)
  simpa [Nat.add_assoc, Nat.add_comm 1 j] using h5
theorem region_quiet_tail {id : Nat} {Q : Exit → Act → World → Prop} {a : Act} {w : World} {l : List Oper} (n : Nat) (hm : P.follows .mixedOrders = true) (hB : Region.lexTailB .any l.toArray n = true)
  (h : wpQuiet P l.toArray (fun w' => ∃ k, w' = w.drewN k) (fun a' => ∀ w', (∃ k, w' = w.drewN k) → wpList P l.toArray Q (l.drop n) a' w') (l.take n) a) : (Code.region id l.toArray true).wp P Q a w := by
 simp only [Region.lexTailB, Bool.and_eq_true, decide_eq_true_eq] at hB
 obtain ⟨⟨⟨⟨hsel, hn⟩, hs⟩, hc⟩, hlex⟩ := hB
 have hn' : n < l.length := by simpa using hn
 have htl : (l.take n).length = n := by simp; omega
 have hdl : (l.drop n).length = l.toArray.size - n := by simp
 have inv0 : HeadInv .any l.toArray n (Array.replicate l.toArray.size false) :=
  ⟨by simp, fun j oj _ hl => (by rw [getD_replicate_false] at hl; cases hl), fun t _ ht => getD_in (by simpa using ht) (getD_replicate_false _ _)⟩
 have H := headQ_lex (md := .any) (g := l.toArray.size - n) hsel hs hc hn (l.take n) 0 _ a (fun j hj => by
  have hj' : j < n := by rw [htl] at hj; exact hj
  simp [hj']) (by simpa using htl) inv0 (by rw [htl]; exact hlex) h
 refine wp_region_any hm ?_
 have h6 := any_of_headQ (Q' := Q) (g := l.toArray.size - n) (fun listed a' w' hC hL => by
  have h7 := wpAny_of_seq (md := .any) (Q' := Q) (l.drop n) n listed a' w' (fun j => by simp [List.getElem?_drop]) (by rw [hdl]; exact hL.1) (hL.2 w' hC)
  rwa [hdl] at h7) _ _ _ { w with drawn := w.drawn + 1 } ⟨1, rfl⟩ H
 rw [htl, show n + (l.toArray.size - n) = l.toArray.size by omega] at h6
 exact h6
end
end Go.Proofs.YtgbehfkimchglaaGreatDoor
namespace Go.Proofs.YtgbehfkimchglaaGreatDoor
set_option maxRecDepth 100000
open Go.RowKit
set_option linter.unusedVariables false
set_option linter.unusedSimpArgs false
def RS.isD (s : RS) (D : Int) : Bool := decide (0 ≤ D) && decide (D < (s.nd : Int))
def RS.isP (s : RS) (D A : Int) : Bool := s.isD D && (decide (0 ≤ A) && decide (A < (s.ns : Int)))
set_option maxRecDepth 100000 in
theorem has_any {B : Nat} (w : World) (r : Nat) (s : RS) (D : Int) (h : RackAt B w r s) :
  Calls Tryz.prog 91 #[.pointer (some ⟨r, 0, none⟩), .int .i64 D] w fun e w' => e = .returned (.bool (s.isD D)) ∧ w' = w := by
 obtain ⟨h0, m1, m2, v, h⟩ := h
 have c0 := h.c0
 clear h0 h
 unfold RS.isD
 by_cases h1 : 0 ≤ D
 ·have t1 : decide (0 ≤ D) = true := by simp [h1]
  by_cases h2 : D < (s.nd : Int)
  ·have t2 : decide (D < (s.nd : Int)) = true := by simp [h2]
   go_enter Tryz.func91, Tryz.ntmps91
   go_wp2
   go_ret
   simp [h1, h2]
  ·have t2 : decide (D < (s.nd : Int)) = false := by simp; omega
   go_enter Tryz.func91, Tryz.ntmps91
   go_wp2
   go_ret
   simp [h1, h2]
 ·have t1 : decide (0 ≤ D) = false := by simp; omega
  go_enter Tryz.func91, Tryz.ntmps91
  go_wp2
  go_ret
  simp [h1]
theorem drives_any {B : Nat} (w : World) (r : Nat) (s : RS) (h : RackAt B w r s) :
  Calls Tryz.prog 56 #[.pointer (some ⟨r, 0, none⟩)] w fun e w' => e = .returned (.int .i64 (s.nd : Int)) ∧ w' = w := by
 obtain ⟨h0, m1, m2, v, h⟩ := h
 have c0 := h.c0
 clear h0 h
 go_enter Tryz.func56, Tryz.ntmps56
 go_wp2
 go_ret
 exact ⟨rfl, rfl⟩
theorem sectors_any {B : Nat} (w : World) (r : Nat) (s : RS) (h : RackAt B w r s) :
  Calls Tryz.prog 57 #[.pointer (some ⟨r, 0, none⟩)] w fun e w' => e = .returned (.int .i64 (s.ns : Int)) ∧ w' = w := by
 obtain ⟨h0, m1, m2, v, h⟩ := h
 have c1 := h.c1
 clear h0 h
 go_enter Tryz.func57, Tryz.ntmps57
 go_wp2
 go_ret
 exact ⟨rfl, rfl⟩
set_option maxRecDepth 100000 in
theorem gone_any {B : Nat} (w : World) (r : Nat) (s : RS) (D : Int) (h : RackAt B w r s) :
  Calls Tryz.prog 109 #[.pointer (some ⟨r, 0, none⟩), .int .i64 D] w fun e w' => e = .returned (.bool (s.isD D && s.gone D.toNat)) ∧ w' = w := by
 have hh := has_any w r s D h
 obtain ⟨h0, m1, m2, v, h⟩ := h
 by_cases hd : s.isD D = true
 ·have hd2 := hd
  unfold RS.isD at hd2
  simp at hd2
  have := h0.nd2
  have cg := h.cg (d := D.toNat) (by omega)
  obtain ⟨d, rfl⟩ : ∃ d : Nat, D = (d : Int) := ⟨D.toNat, by omega⟩
  simp only [Int.toNat_natCast] at cg
  have i2 : (d : Int) < 16 := by omega
  have i1 : (0 : Int) ≤ (d : Int) := by omega
  rw [hd] at hh
  have HH := Lib.hid hh
  clear h0 h hh
  go_enter Tryz.func109, Tryz.ntmps109
  go_wp2_with fail
  refine HH.out.mono ?_
  rintro e w' ⟨rfl, rfl⟩
  go_wp2_with fail
  go_ret
  simp [hd]
 ·have hd' : s.isD D = false := by simpa using hd
  rw [hd'] at hh
  have HH := Lib.hid hh
  clear h0 h hh hd
  go_enter Tryz.func109, Tryz.ntmps109
  go_wp2_with fail
  refine HH.out.mono ?_
  rintro e w' ⟨rfl, rfl⟩
  go_wp2_with fail
  go_ret
  simp [hd']
def RS.why (s : RS) (D A : Int) : Int := if s.isP D A then (if s.gone D.toNat then 3 else 0) else 1
def placeV (D A : Int) : Value := .agg #[.int .i64 D, .int .i64 A]
set_option maxRecDepth 100000 in
set_option maxHeartbeats 800000 in
theorem reach_any {B : Nat} (w : World) (r : Nat) (s : RS) (D A : Int) (h : RackAt B w r s) :
  Calls Tryz.prog 95 #[.pointer (some ⟨r, 0, none⟩), placeV D A] w fun e w' => e = .returned (.int .i64 (s.why D A)) ∧ RackAt B w' r s ∧ Keep B w w' ∧ w'.heap.size = w.heap.size + 1 ∧ Below w.heap.size w w' := by
 have hle := h.le
 have K0 := Lib.hid (((Keep.refl B w).alloc h.le (.cells #[.int .i64 D, .int .i64 A] 167)))
 have N0 := Lib.hid ((Below.refl w.heap.size w).alloc (Nat.le_refl _) (.cells #[.int .i64 D, .int .i64 A] 167))
 have HS := Lib.hid (h.alloc (.cells #[.int .i64 D, .int .i64 A] 167))
 obtain ⟨h0, m1, m2, v, hw⟩ := h
 have c1 := hw.c1
 have c1' : (w.alloc (.cells #[.int .i64 D, .int .i64 A] 167)).cell? ⟨r, 1, none⟩ = some (.int .i64 (s.ns : Int)) := (hw.alloc _).c1
 have hh := Lib.hid (fun n => has_any _ r s D (HS.out.drewN n))
 clear hw
 by_cases hd : s.isD D = true
 ·have hd2 := hd
  unfold RS.isD at hd2
  simp at hd2
  have hnd := h0.nd2
  obtain ⟨d, rfl⟩ : ∃ d : Nat, D = (d : Int) := ⟨D.toNat, by omega⟩
  have i2 : (d : Int) < 16 := by omega
  have i1 : (0 : Int) ≤ (d : Int) := by omega
  unfold RS.why RS.isP placeV
  simp only [hd] at hh ⊢
  clear h0
  by_cases ha : 0 ≤ A
  ·have t1 : (A < 0) = False := by simp; omega
   have t1' : decide (A < 0) = false := by simp; omega
   have t1'' : decide (0 ≤ A) = true := by simp; omega
   by_cases ha2 : A < (s.ns : Int)
   ·have t2 : ((s.ns : Int) ≤ A) = False := by simp; omega
    have t2' : decide ((s.ns : Int) ≤ A) = false := by simp; omega
    have t2'' : decide (A < (s.ns : Int)) = true := by simp; omega
    simp only [t1'', t2'', Int.toNat_natCast]
    obtain ⟨_, n1, n2, vv, hs2⟩ := HS.out
    have cg := hs2.cg (d := d) (by omega)
    clear hs2
    by_cases hg : s.gone d = true
    rotate_left
    ·have hg' : s.gone d = false := by simpa using hg
     simp only [hg'] at cg
     simp only [hg', Bool.and_self, if_true, Bool.false_eq_true, if_false]
     go_enter Tryz.func95, Tryz.ntmps95
     go_wp2_with fail
     go_quiet ((go_at_call 91; exact Calls.quiet_of_same (hh.out _)))
     go_wp2_with fail
     go_quiet (fail)
     go_wp2_with fail
     go_ret
     exact ⟨rfl, (HS.out.drewN _).drewN _, (K0.out.drewN _).drewN _, by simp, below_drewN (below_drewN N0.out _) _⟩
    ·simp only [hg] at cg
     simp only [hg, Bool.and_self, if_true]
     go_enter Tryz.func95, Tryz.ntmps95
     go_wp2_with fail
     go_quiet ((go_at_call 91; exact Calls.quiet_of_same (hh.out _)))
     go_wp2_with fail
     go_quiet (fail)
     go_wp2_with fail
     go_ret
     exact ⟨rfl, (HS.out.drewN _).drewN _, (K0.out.drewN _).drewN _, by simp, below_drewN (below_drewN N0.out _) _⟩
   ·have t2 : ((s.ns : Int) ≤ A) = True := by simp; omega
    have t2' : decide ((s.ns : Int) ≤ A) = true := by simp; omega
    have t2'' : decide (A < (s.ns : Int)) = false := by simp; omega
    simp only [t1'', t2'', Bool.and_false, Bool.false_eq_true, if_false]
    go_enter Tryz.func95, Tryz.ntmps95
    go_wp2_with fail
    go_quiet ((go_at_call 91; exact Calls.quiet_of_same (hh.out _)))
    go_wp2_with fail
    go_ret
    exact ⟨rfl, HS.out.drewN _, K0.out.drewN _, by simp, below_drewN N0.out _⟩
  ·have t1 : (A < 0) = True := by simp; omega
   have t1' : decide (A < 0) = true := by simp; omega
   have t1'' : decide (0 ≤ A) = false := by simp; omega
   simp only [t1'', Bool.and_false, Bool.false_and, Bool.false_eq_true, if_false]
   go_enter Tryz.func95, Tryz.ntmps95
   go_wp2_with fail
   go_quiet ((go_at_call 91; exact Calls.quiet_of_same (hh.out _)))
   go_wp2_with fail
   go_ret
   exact ⟨rfl, HS.out.drewN _, K0.out.drewN _, by simp, below_drewN N0.out _⟩
 ·have hd' : s.isD D = false := by simpa using hd
  unfold RS.why RS.isP placeV
  simp only [hd'] at hh ⊢
  clear hd hd' h0
  go_enter Tryz.func95, Tryz.ntmps95
  go_wp2_with fail
  go_quiet ((go_at_call 91; exact Calls.quiet_of_same (hh.out _)))
  go_wp2_with fail
  go_ret
  exact ⟨rfl, HS.out.drewN _, K0.out.drewN _, by simp, below_drewN N0.out _⟩
end Go.Proofs.YtgbehfkimchglaaGreatDoor
namespace Go.Proofs.YtgbehfkimchglaaGreatDoor
set_option maxRecDepth 100000
open Go.RowKit
set_option linter.unusedVariables false
def RS.pow (s : RS) : Bool := !s.off && (!s.armed || !decide (s.left = 0))
def RS.spent (s : RS) : RS := if s.off then s else if !s.armed then s else if s.left = 0 then { s with off := true } else { s with left := s.left - 1 }
set_option maxRecDepth 100000 in
set_option maxHeartbeats 800000 in
theorem powered_w {B m1 m2 : Nat} {v : Value} (w : World) (r : Nat) (s : RS) (h0 : s.ok) (h : RackW B w r m1 m2 v s) :
  Calls Tryz.prog 201 #[.pointer (some ⟨r, 0, none⟩)] w fun e w' => e = .returned (.bool s.pow) ∧ (s.spent.ok ∧ RackW B w' r m1 m2 v s.spent) ∧ Keep B w w' ∧ w.grownBy w' (some r) := by
 have c21 := h.c21
 have c22 := h.c22
 have c23 := h.c23
 have f21 := h.frozen 21
 have f23 := h.frozen 23
 have hleft := h0.left
 have H0 := Lib.hid h0
 have HW := Lib.hid h
 have K0 := Lib.hid (Keep.refl B w)
 clear h0 h
 by_cases ho : s.off = true
 ·simp only [ho] at c21
  have e1 : s.pow = false := by simp [RS.pow, ho]
  have e2 : s.spent = s := by simp [RS.spent, ho]
  rw [e1, e2]
  go_enter Tryz.func201, Tryz.ntmps201
  go_wp2_with fail
  go_ret
  exact ⟨rfl, ⟨H0.out, HW.out⟩, K0.out, World.grownBy.refl _ _⟩
 ·have ho' : s.off = false := by simpa using ho
  simp only [ho'] at c21
  by_cases ha : s.armed = true
  ·simp only [ha] at c22
   by_cases hl : s.left = 0
   ·have e1 : s.pow = false := by simp [RS.pow, ho', ha, hl]
    have e2 : s.spent = { s with off := true } := by simp [RS.spent, ho', ha, hl]
    rw [hl] at c23
    rw [e1, e2]
    go_enter Tryz.func201, Tryz.ntmps201
    go_wp2_with fail
    go_ret
    refine ⟨rfl, ⟨⟨H0.out.nd1, H0.out.nd2, H0.out.ns1, H0.out.ns2, H0.out.left, H0.out.cost, H0.out.wp, H0.out.lp⟩, HW.out.put (i := 21) (by omega) rfl ?_ rfl rfl rfl rfl⟩, K0.out.setRack HW.out.blk HW.out.hr 21 _, grown_set _ _ _ _⟩
    intro j hj hne
    unfold rackCell
    simp [hne]
   ·have t1 : ((s.left : Int) = 0) = False := by simp; exact hl
    have t2 : ((s.left : Int) == 0) = false := by simp; exact hl
    have t3 : decide ((s.left : Int) = 0) = false := by simp; exact hl
    have t4 : IntKind.i64.wrap ((s.left : Int) - 1) = ((s.left - 1 : Nat) : Int) := by
     rw [show (s.left : Int) - 1 = ((s.left - 1 : Nat) : Int) by omega]
     rw [IntKind.wrap_i64]; omega
    have e1 : s.pow = true := by simp [RS.pow, ho', ha, hl]
    have e2 : s.spent = { s with left := s.left - 1 } := by simp [RS.spent, ho', ha, hl]
    rw [e1, e2]
    go_enter Tryz.func201, Tryz.ntmps201
    go_wp2_with fail
    go_ret
    refine ⟨rfl, ⟨⟨H0.out.nd1, H0.out.nd2, H0.out.ns1, H0.out.ns2, Nat.le_trans (Nat.sub_le _ _) H0.out.left, H0.out.cost, H0.out.wp, H0.out.lp⟩, HW.out.put (i := 23) (by omega) rfl ?_ rfl rfl rfl rfl⟩, K0.out.setRack HW.out.blk HW.out.hr 23 _, grown_set _ _ _ _⟩
    intro j hj hne
    unfold rackCell
    by_cases h1 : j = 21
    ·subst h1; rfl
    by_cases h2 : j = 22
    ·subst h2; rfl
    by_cases h3 : j < 21
    ·simp [h3]
    ·omega
  ·have ha' : s.armed = false := by simpa using ha
   simp only [ha'] at c22
   have e1 : s.pow = true := by simp [RS.pow, ho', ha']
   have e2 : s.spent = s := by simp [RS.spent, ho', ha']
   rw [e1, e2]
   go_enter Tryz.func201, Tryz.ntmps201
   go_wp2_with fail
   go_ret
   exact ⟨rfl, ⟨H0.out, HW.out⟩, K0.out, World.grownBy.refl _ _⟩
end Go.Proofs.YtgbehfkimchglaaGreatDoor
