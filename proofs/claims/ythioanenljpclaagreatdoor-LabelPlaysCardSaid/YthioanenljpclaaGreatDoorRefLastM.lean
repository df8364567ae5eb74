/-
  What calls of the document's rack leave as it is; its power. Conditions: the rack is one.
-/
import Derived.Test.YthioanenljpclaaGreatDoorRefLookM
import Derived.Test.YthioanenljpclaaGreatDoorRackAwaitM
import Derived.Test.YthioanenljpclaaGreatDoorRackCrashM
import Derived.Test.YthioanenljpclaaGreatDoorDrawSeqM
namespace Go.Proofs.YthioanenljpclaaGreatDoor
open Go Go.RowKit
set_option maxRecDepth 100000
set_option linter.unusedVariables false
namespace refRack
/-- what the document's rack is made of -/
def refT (t : TypeId) : Bool := t == 74 || (t == 75 || (t == 9 || (t == 4 || t == 92)))
def refObj : Obj → Bool
  | .cells _ t _ => refT t
  | _ => false
structure KeepR (B : Nat) (w w' : World) : Prop where
  below : Below B w w'
  kept : ∀ (k : Nat) (o : Obj), w.heap[k]? = some o → refObj o = false → w'.heap[k]? = some o
section
variable {B : Nat} {a w w' : World} {g : Nat} {s : RS} {vL vG vW : Value} {H C : Nat → Nat}
theorem KeepR.refl (B : Nat) (w : World) : KeepR B w w := ⟨Below.refl B w, fun _ _ h _ => h⟩
theorem KeepR.trans (h : KeepR B a w) (k : KeepR B w w') : KeepR B a w' := ⟨h.below.trans k.below, fun i o h1 h2 => k.kept i o (h.kept i o h1 h2) h2⟩
theorem KeepR.of_grown (h : KeepR B a w) (hg : w.grownBy w' (some g)) (hB : B ≤ g) (hs : B ≤ w.heap.size) (ho : ∀ o, w.heap[g]? = some o → refObj o = true) : KeepR B a w' :=
  ⟨h.below.trans ⟨hg.os, hg.tape, hg.output, hg.size, fun k hk => hg.block k (by omega) (fun e => by injection e; omega)⟩, fun i x h1 h2 => by
    have h3 := h.kept i x h1 h2
    refine (hg.block i (Array.getElem?_eq_some_iff.1 h3).1 (fun e => ?_)).trans h3
    injection e with e
    subst e
    rw [ho _ h3] at h2
    cases h2⟩
theorem KeepR.new (h : KeepR B a w) (hb : Below w.heap.size w w') (hs : B ≤ w.heap.size) : KeepR B a w' :=
  ⟨h.below.trans (hb.mono hs), fun i x h1 h2 => by
    have h3 := h.kept i x h1 h2
    exact (hb.block i (Array.getElem?_eq_some_iff.1 h3).1).trans h3⟩
theorem TK.le (h : TK B w g s vL vG vW H C) : B ≤ w.heap.size := Nat.le_trans h.hg (Nat.le_of_lt h.blk.lt)
/-- a store into the rack's own block -/
theorem KeepR.put (h : KeepR B a w) (hk : TK B w g s vL vG vW H C) (i : Nat) (u : Value) : KeepR B a (w.setCell ⟨g, i, none⟩ u) :=
  h.of_grown (grown_set w g i u) hk.hg hk.le fun o ho => by
    have hb := hk.blk
    unfold Blk at hb
    rw [hb] at ho
    injection ho with ho
    subst ho
    rfl
theorem own_obj {n c : Nat} {e : TypeId} {v : Value} {xs : List Value} (h : w.ownsRow B e c v n xs) (he : refT e = true) (hv : v.ownBlock = some g) : ∀ o, w.heap[g]? = some o → refObj o = true := fun o ho => by
  rcases h.2 with ⟨rfl, _⟩ | ⟨g1, cap, cur, rfl, _, h3, _⟩
  · cases hv
  · simp [Value.ownBlock] at hv
    subst hv
    rw [h3] at ho
    injection ho with ho
    subst ho
    exact he
/-- growth of one of its rows -/
theorem KeepR.row (h : KeepR B a w) {n c : Nat} {e : TypeId} {v : Value} {xs : List Value} (hr : w.ownsRow B e c v n xs) (he : refT e = true) (hs : B ≤ w.heap.size) (hg : w.grownBy w' v.ownBlock) : KeepR B a w' := by
  cases hv : v.ownBlock with
  | none =>
    rw [hv] at hg
    exact h.new ⟨hg.os, hg.tape, hg.output, hg.size, fun k hk => hg.block k hk (fun e => by cases e)⟩ hs
  | some g1 =>
    rw [hv] at hg
    exact h.of_grown hg (own_lt hr hv).2 hs (own_obj hr he hv)
/-- a rack beside it -/
theorem _root_.Go.Proofs.YthioanenljpclaaGreatDoor.RackAt.keepR {B' r : Nat} {s' : RS} (h : RackAt B' w r s') (k : KeepR B w w') : RackAt B' w' r s' := by
  obtain ⟨h0, m1, m2, v, h⟩ := h
  refine ⟨h0, m1, m2, v, h.move (fun i hi hor => ?_) k.below.size⟩
  have hk : ∀ o, w.heap[i]? = some o → refObj o = false → w'.heap[i]? = w.heap[i]? := fun o h1 h2 => (k.kept i o h1 h2).trans h1.symm
  rcases hor with e | e | e | e
  · subst e
    exact hk _ h.blk rfl
  · subst e
    obtain ⟨n, F, _, h1, _⟩ := h.last
    obtain ⟨es, c, h2⟩ := h1.isMap
    exact hk _ h2 rfl
  · subst e
    obtain ⟨es, c, h2⟩ := h.newest.isMap
    exact hk _ h2 rfl
  · obtain ⟨_, cs', hb'⟩ := own_blk h.row e
    exact hk _ hb' rfl
/-- the document's rack beside a rack's call -/
theorem TK.keepRack {B' : Nat} (h : TK B w g s vL vG vW H C) (k : Keep B' w w') : TK B w' g s vL vG vW H C := by
  have ok : ∀ {n c : Nat} {e : TypeId} {v : Value} {xs : List Value}, (e == 68 || e == 89) = false → w.ownsRow B e c v n xs → w'.ownsRow B e c v n xs := fun he h1 => own_keep h1 fun g1 hg1 => by
    rcases h1.2 with ⟨rfl, _⟩ | ⟨g2, cap, cur, rfl, _, h3, _⟩
    · cases hg1
    · simp [Value.ownBlock] at hg1
      subst hg1
      exact (k.kept g2 _ h3 he).trans h3.symm
  exact ⟨k.kept g _ h.blk rfl, h.hg, ok rfl h.heads, fun d hd => ok rfl (h.rows d hd), h.apart, ok rfl h.lost, ok rfl h.waits⟩
/-- a store of a power's cell -/
theorem TK.power (h : TK B w g s vL vG vW H C) {i : Nat} {u : Value} {off armed : Bool} {left : Nat} (e : (cells s vL vG vW).setIfInBounds i u = cells { s with off := off, armed := armed, left := left } vL vG vW) :
    TK B (w.setCell ⟨g, i, none⟩ u) g { s with off := off, armed := armed, left := left } vL vG vW H C := by
  have ok : ∀ {n c : Nat} {t : TypeId} {v : Value} {xs : List Value}, (t == 74) = false → w.ownsRow B t c v n xs → (w.setCell ⟨g, i, none⟩ u).ownsRow B t c v n xs := fun he h1 => own_keep h1 fun g1 hg1 => Below.heap_setCell w ⟨g, i, none⟩ u g1 (fun e => own_not_blk h1 h.blk he (by rw [hg1]; exact congrArg some e))
  refine ⟨?_, h.hg, ok rfl h.heads, fun d hd => ok rfl (h.rows d hd), h.apart, ok rfl h.lost, ok rfl h.waits⟩
  have := h.blk.set_ i u
  rw [e] at this
  exact this
theorem TK.frozen (h : TK B w g s vL vG vW H C) (i : Nat) : w.frozen? ⟨g, i, none⟩ = false := h.blk.frozen i
set_option maxHeartbeats 800000 in
theorem spend_k (w : World) (g : Nat) (s : RS) (hl : s.left ≤ 9223372036854775807) (h : TK B w g s vL vG vW H C) :
    Calls Tryz.prog 38 #[.pointer (some ⟨g, 0, none⟩)] w fun e w' => e = .returned (.bool s.pow) ∧ TK B w' g s.spent vL vG vW H C ∧ KeepR B w w' := by
  have HK := Lib.hid h
  have c3 := h.c3
  have c4 := h.c4
  have f3 := h.frozen 3
  have f4 := h.frozen 4
  obtain ⟨nd, ns, last, nw, W, gone, off, armed, left, cost⟩ := s
  dsimp only at hl
  cases off with
  | true =>
    have e3 : (cells ⟨nd, ns, last, nw, W, gone, true, armed, left, cost⟩ vL vG vW).setIfInBounds 3 (.bool true) = cells ⟨nd, ns, last, nw, W, gone, true, armed, left, cost⟩ vL vG vW := rfl
    have H3 : Hid (TK B (w.setCell ⟨g, 3, none⟩ (.bool true)) g ⟨nd, ns, last, nw, W, gone, true, armed, left, cost⟩ vL vG vW H C) := Lib.hid (h.power (off := true) (armed := armed) (left := left) e3)
    have K3 := Lib.hid ((KeepR.refl B w).put h 3 (.bool true))
    clear h e3 c4 f4
    go_enter Tryz.func38, Tryz.ntmps38
    go_wp2_with fail
    go_ret
    exact ⟨rfl, H3.out, K3.out⟩
  | false =>
    cases armed with
    | false =>
      have k4 : w.cell? ⟨g, 4, none⟩ = some (.int .i64 (-1)) := c4
      clear h c4 f3 f4
      go_enter Tryz.func38, Tryz.ntmps38
      go_wp2_with fail
      go_ret
      exact ⟨rfl, HK.out, KeepR.refl B w⟩
    | true =>
      have k4 : w.cell? ⟨g, 4, none⟩ = some (.int .i64 (left : Int)) := c4
      by_cases h0 : left = 0
      · subst h0
        have H3 : Hid (TK B (w.setCell ⟨g, 3, none⟩ (.bool true)) g ⟨nd, ns, last, nw, W, gone, true, true, 0, cost⟩ vL vG vW H C) := Lib.hid (h.power (off := true) (armed := true) (left := 0) rfl)
        have K3 := Lib.hid ((KeepR.refl B w).put h 3 (.bool true))
        clear h c4 f4
        go_enter Tryz.func38, Tryz.ntmps38
        go_wp2_with fail
        go_ret
        exact ⟨rfl, H3.out, K3.out⟩
      · have t1 : ((left : Int) == 0) = false := by simp; omega
        have t2 : (0 : Int) < (left : Int) := by omega
        have hl0 : Hid (0 < left) := Lib.hid (by omega)
        have H4 : Hid (TK B (w.setCell ⟨g, 4, none⟩ (.int .i64 ((left - 1 : Nat) : Int))) g ⟨nd, ns, last, nw, W, gone, false, true, left - 1, cost⟩ vL vG vW H C) := Lib.hid (h.power (off := false) (armed := true) (left := left - 1) rfl)
        have K4 := Lib.hid ((KeepR.refl B w).put h 4 (.int .i64 ((left - 1 : Nat) : Int)))
        have hw : wrap64 ((left : Int) - 1) = ((left - 1 : Nat) : Int) := by unfold wrap64; omega
        have hp : (⟨nd, ns, last, nw, W, gone, false, true, left, cost⟩ : RS).pow = true := by unfold RS.pow; simp [h0]
        have hs : (⟨nd, ns, last, nw, W, gone, false, true, left, cost⟩ : RS).spent = ⟨nd, ns, last, nw, W, gone, false, true, left - 1, cost⟩ := by unfold RS.spent; simp [h0]
        have HP := Lib.hid hp
        have HSP := Lib.hid hs
        clear h c4 f3 h0 hp hs
        go_enter Tryz.func38, Tryz.ntmps38
        go_wp2_with fail
        go_ret
        rw [HP.out, HSP.out]
        have he : (left : Int) - 1 = ((left - 1 : Nat) : Int) := by have := hl0.out; omega
        rw [he]
        exact ⟨rfl, H4.out, K4.out⟩
theorem arm_k (w : World) (g : Nat) (s : RS) (n : Int) (h : TK B w g s vL vG vW H C) :
    Calls Tryz.prog 24 #[.pointer (some ⟨g, 0, none⟩), .int .i64 n] w fun e w' => e = .returned (.tuple #[]) ∧ TK B w' g (s.arm n) vL vG vW H C ∧ KeepR B w w' := by
  have f4 := h.frozen 4
  have c4 := h.c4
  have H4 : Hid (TK B (w.setCell ⟨g, 4, none⟩ (.int .i64 (max n (-1)))) g (s.arm n) vL vG vW H C) := Lib.hid (h.power (off := s.off) (armed := decide (0 ≤ n)) (left := n.toNat) (by
    have e : armI { s with off := s.off, armed := decide (0 ≤ n), left := n.toNat } = max n (-1) := by
      unfold armI
      by_cases h1 : 0 ≤ n
      · simp only [h1, decide_true, if_true]
        omega
      · simp only [h1, decide_false, Bool.false_eq_true, if_false]
        omega
    unfold cells
    rw [e]
    rfl))
  have K4 := Lib.hid ((KeepR.refl B w).put h 4 (.int .i64 (max n (-1))))
  clear h
  go_enter Tryz.func24, Tryz.ntmps24
  go_wp2_with fail
  · go_end0
    rw [show max n (-1) = -1 by omega] at H4 K4
    exact ⟨rfl, H4.out, K4.out⟩
  · go_end0
    rw [show max n (-1) = n by omega] at H4 K4
    exact ⟨rfl, H4.out, K4.out⟩
end
end refRack
end Go.Proofs.YthioanenljpclaaGreatDoor
namespace Go.Proofs.YthioanenljpclaaGreatDoor
open Go Go.RowKit
set_option maxRecDepth 100000
set_option linter.unusedVariables false
namespace refRack
section
variable {B : Nat} {w w' : World} {g : Nat} {s : RS} {vL vG vW : Value} {H C : Nat → Nat}
theorem textL_set {n a : Nat} (X : Nat → Nat → Nat) (x : Nat → Nat) (h : a < n) : (textL n X).set a (textV x) = textL n (fun a' => if a' = a then x else X a') := by
  apply List.ext_getElem?
  intro j
  rw [List.getElem?_set]
  by_cases hj : j < n
  · rw [textL_get _ hj, textL_get _ hj]
    by_cases e : a = j
    · subst e
      rw [if_pos rfl, if_pos (by simp [textL]; exact h), if_pos rfl]
    · rw [if_neg e, if_neg (fun q => e q.symm)]
  · rw [List.getElem?_eq_none (l := textL n X) (by simp [textL]; omega), List.getElem?_eq_none (l := textL n _) (by simp [textL]; omega)]
    have : (textL n X).length = n := by simp [textL]
    by_cases e : a = j
    · omega
    · rw [if_neg e]
/-- a sector's text is another one -/
theorem TK.setText (h : TK B w g s vL vG vW H C) {d a : Nat} (hd : d < s.nd) (ha : a < s.ns) (x : Nat → Nat) :
    TK B (w.setCell ⟨H d, a, none⟩ (textV x)) g { s with last := fun d' a' => if d' = d ∧ a' = a then x else s.last d' a' } vL vG vW H C ∧ KeepR B w (w.setCell ⟨H d, a, none⟩ (textV x)) := by
  have hrow := h.rows d hd
  have hob : (Value.slice (some ⟨H d, 0, none⟩) s.ns (C d)).ownBlock = some (H d) := rfl
  have ok : ∀ {n c : Nat} {t : TypeId} {v : Value} {xs : List Value}, (9 == t) = false → w.ownsRow B t c v n xs → (w.setCell ⟨H d, a, none⟩ (textV x)).ownsRow B t c v n xs := fun he h1 => own_keep h1 fun g1 hg1 => Below.heap_setCell w ⟨H d, a, none⟩ (textV x) g1 (fun e => own_type hrow h1 he hob (by rw [hg1, e]))
  refine ⟨⟨?_, h.hg, ok rfl h.heads, fun d' hd' => ?_, h.apart, ok rfl h.lost, ok rfl h.waits⟩, (KeepR.refl B w).of_grown (grown_set w _ a _) (own_lt hrow hob).2 h.le (own_obj hrow rfl hob)⟩
  · exact h.blk.far (p := ⟨H d, a, none⟩) (fun e => own_not_blk hrow h.blk rfl (by rw [hob]; exact congrArg some e.symm)) _
  · by_cases e : d' = d
    · subst e
      have h2 := ((h.rows d' hd').stored a (textV x)).1
      rw [textL_set _ _ ha] at h2
      have e2 : (fun a' => if a' = a then x else s.last d' a') = (fun a' => if d' = d' ∧ a' = a then x else s.last d' a') := by
        funext a'
        by_cases q : a' = a
        · rw [if_pos q, if_pos ⟨rfl, q⟩]
        · rw [if_neg q, if_neg (fun z => q z.2)]
      rw [e2] at h2
      exact h2
    · have e2 : (fun a' => if d' = d ∧ a' = a then x else s.last d' a') = s.last d' := by
        funext a'
        rw [if_neg (fun z => e z.1)]
      show (w.setCell ⟨H d, a, none⟩ (textV x)).ownsRow B 9 1 _ s.ns (textL s.ns (fun a' => if d' = d ∧ a' = a then x else s.last d' a'))
      rw [e2]
      exact own_keep (h.rows d' hd') fun g1 hg1 => Below.heap_setCell w ⟨H d, a, none⟩ (textV x) g1 (fun q => h.apart d' d hd' hd e (by simp [Value.ownBlock] at hg1; rw [hg1]; exact q))
set_option maxHeartbeats 800000 in
theorem last_k (w : World) (g : Nat) (s : RS) (d a : Nat) (x : Nat → Nat) (h : TK B w g s vL vG vW H C) (hd : d < s.nd) (ha : a < s.ns) :
    Calls Tryz.prog 39 #[.pointer (some ⟨g, 0, none⟩), .agg #[.int .i64 (d : Int), .int .i64 (a : Int), textV x]] w fun e w' => e = .returned (.tuple #[]) ∧ TK B w' g { s with last := fun d' a' => if d' = d ∧ a' = a then x else s.last d' a' } vL vG vW H C ∧ KeepR B w w' := by
  have hb1 : Below w.heap.size w (w.alloc (.cells #[.int .i64 (d : Int), .int .i64 (a : Int), textV x] 92)).drew := ((Below.refl _ _).alloc (Nat.le_refl _) _).drew
  have h1 := h.below hb1
  have K1 := Lib.hid ((KeepR.refl B w).new hb1 h.le)
  obtain ⟨l, c, rfl, k1, _⟩ := h1.head hd
  obtain ⟨k2, k3⟩ := h1.text hd ha
  have k0 := h1.c0
  have X1 := Blk.new w 92 #[.int .i64 (d : Int), .int .i64 (a : Int), textV x]
  have HP := Lib.hid (h1.setText hd ha x)
  have HT : Hid ((w.alloc (.cells #[.int .i64 (d : Int), .int .i64 (a : Int), textV x] 92)).drew.cell? ⟨H d, 0 + a, none⟩ = some (textV (s.last d a)) ∧ (w.alloc (.cells #[.int .i64 (d : Int), .int .i64 (a : Int), textV x] 92)).drew.frozen? ⟨H d, 0 + a, none⟩ = false) := Lib.hid (by rw [Nat.zero_add]; exact ⟨k2, k3⟩)
  have HS : Hid ((fun w' : World => w'.cell? ⟨g, 0, none⟩ = some (.slice (some ⟨l, 0, none⟩) s.nd c) ∧ w'.cell? ⟨l, 0 + d, none⟩ = some (.slice (some ⟨H d, 0, none⟩) s.ns (C d)) ∧ w'.cell? ⟨w.heap.size, 0, none⟩ = some (.int .i64 (d : Int)) ∧ w'.cell? ⟨w.heap.size, 1, none⟩ = some (.int .i64 (a : Int)) ∧ w'.cell? ⟨w.heap.size, 2, none⟩ = some (textV x)) (w.alloc (.cells #[.int .i64 (d : Int), .int .i64 (a : Int), textV x] 92)).drew) :=
    Lib.hid ⟨k0, by rw [Nat.zero_add]; exact k1, X1.cell 0, X1.cell 1, X1.cell 2⟩
  generalize H d = hb at *
  generalize C d = cd at *
  clear h h1 hb1 k0 k1 k2 k3 X1
  obtain ⟨nd, hnd⟩ : ∃ nd, nd = s.nd := ⟨_, rfl⟩
  obtain ⟨ns, hns⟩ : ∃ ns, ns = s.ns := ⟨_, rfl⟩
  rw [← hnd] at hd HS
  rw [← hns] at ha HS
  clear hnd hns
  go_enter Tryz.func39, Tryz.ntmps39
  go_wp2_with fail
  refine region_anyZ (fun w' => w'.cell? ⟨g, 0, none⟩ = some (.slice (some ⟨l, 0, none⟩) nd c) ∧ w'.cell? ⟨l, 0 + d, none⟩ = some (.slice (some ⟨hb, 0, none⟩) ns cd) ∧ w'.cell? ⟨w.heap.size, 0, none⟩ = some (.int .i64 (d : Int)) ∧ w'.cell? ⟨w.heap.size, 1, none⟩ = some (.int .i64 (a : Int)) ∧ w'.cell? ⟨w.heap.size, 2, none⟩ = some (textV x)) 13 (by kernel_rfl) ?_
  refine takeG 0 (.move (.tmp 0)) (some 4) none (.pointer (some ⟨g, 0, none⟩)) (by kernel_rfl) (by kernel_rfl) (by kernel_rfl) (fun _ _ _ h => h) (fun o wq e hS => exec_move wq e (by kernel_rfl)) HS.out ?_
  refine takeG 1 (.nilCheck (.tmp 4)) (some 5) none (.pointer (some ⟨g, 0, none⟩)) (by kernel_rfl) (by kernel_rfl) (by kernel_rfl) (fun _ _ _ h => h) (fun o wq e hS => exec_nil wq e (by kernel_rfl)) HS.out ?_
  refine takeG 2 (.fieldAddr 74 (.tmp 5) 0) (some 6) none (.pointer (some ⟨g, 0, none⟩)) (by kernel_rfl) (by kernel_rfl) (by kernel_rfl) (fun _ _ _ h => h) (fun o wq e hS => exec_field (u := .pointer (some ⟨g, 0, none⟩)) wq e (by kernel_rfl) (by kernel_rfl)) HS.out ?_
  refine takeG 3 (.load 71 (.tmp 6)) (some 7) none (.slice (some ⟨l, 0, none⟩) nd c) (by kernel_rfl) (by kernel_rfl) (by kernel_rfl) (fun _ _ _ h => h) (fun o wq e hS => exec_load (x := (.tmp 6)) e (by kernel_rfl) (load_one Tryz.underlying71 (by kernel_rfl) hS.1)) HS.out ?_
  refine takeG 4 (.fieldAddr 92 (.tmp 3) 0) (some 8) none (.pointer (some ⟨w.heap.size, 0, none⟩)) (by kernel_rfl) (by kernel_rfl) (by kernel_rfl) (fun _ _ _ h => h) (fun o wq e hS => exec_field (u := .pointer (some ⟨w.heap.size, 0, none⟩)) wq e (by kernel_rfl) (by kernel_rfl)) HS.out ?_
  refine takeG 5 (.load 3 (.tmp 8)) (some 9) none (.int .i64 (d : Int)) (by kernel_rfl) (by kernel_rfl) (by kernel_rfl) (fun _ _ _ h => h) (fun o wq e hS => exec_load (x := (.tmp 8)) e (by kernel_rfl) (load_one Tryz.underlying3 (by kernel_rfl) hS.2.2.1)) HS.out ?_
  refine takeG 6 (.indexAddr 71 (.tmp 7) (.tmp 9)) (some 10) none (.pointer (some ⟨l, 0 + d, none⟩)) (by kernel_rfl) (by kernel_rfl) (by kernel_rfl) (fun _ _ _ h => h) (fun o wq e hS => exec_index (u1 := .slice (some ⟨l, 0, none⟩) nd c) (u2 := .int .i64 (d : Int)) wq e (by kernel_rfl) (by kernel_rfl) (index_slice Tryz.underlying71 (by kernel_rfl) l 0 nd c d hd _)) HS.out ?_
  refine takeG 7 (.load 75 (.tmp 10)) (some 11) none (.slice (some ⟨hb, 0, none⟩) ns cd) (by kernel_rfl) (by kernel_rfl) (by kernel_rfl) (fun _ _ _ h => h) (fun o wq e hS => exec_load (x := (.tmp 10)) e (by kernel_rfl) (load_one Tryz.underlying75 (by kernel_rfl) hS.2.1)) HS.out ?_
  refine takeG 8 (.fieldAddr 92 (.tmp 3) 1) (some 12) none (.pointer (some ⟨w.heap.size, 1, none⟩)) (by kernel_rfl) (by kernel_rfl) (by kernel_rfl) (fun _ _ _ h => h) (fun o wq e hS => exec_field (u := .pointer (some ⟨w.heap.size, 0, none⟩)) wq e (by kernel_rfl) (by kernel_rfl)) HS.out ?_
  refine takeG 9 (.load 3 (.tmp 12)) (some 13) none (.int .i64 (a : Int)) (by kernel_rfl) (by kernel_rfl) (by kernel_rfl) (fun _ _ _ h => h) (fun o wq e hS => exec_load (x := (.tmp 12)) e (by kernel_rfl) (load_one Tryz.underlying3 (by kernel_rfl) hS.2.2.2.1)) HS.out ?_
  refine takeG 10 (.fieldAddr 92 (.tmp 3) 2) (some 14) none (.pointer (some ⟨w.heap.size, 2, none⟩)) (by kernel_rfl) (by kernel_rfl) (by kernel_rfl) (fun _ _ _ h => h) (fun o wq e hS => exec_field (u := .pointer (some ⟨w.heap.size, 0, none⟩)) wq e (by kernel_rfl) (by kernel_rfl)) HS.out ?_
  refine takeG 11 (.load 9 (.tmp 14)) (some 15) none (textV x) (by kernel_rfl) (by kernel_rfl) (by kernel_rfl) (fun _ _ _ h => h) (fun o wq e hS => exec_load (x := (.tmp 14)) e (by kernel_rfl) (load_one Tryz.underlying9 (by kernel_rfl) hS.2.2.2.2)) HS.out ?_
  refine takeG 12 (.indexAddr 75 (.tmp 11) (.tmp 13)) (some 16) none (.pointer (some ⟨hb, 0 + a, none⟩)) (by kernel_rfl) (by kernel_rfl) (by kernel_rfl) (fun _ _ _ h => h) (fun o wq e hS => exec_index (u1 := .slice (some ⟨hb, 0, none⟩) ns cd) (u2 := .int .i64 (a : Int)) wq e (by kernel_rfl) (by kernel_rfl) (index_slice Tryz.underlying75 (by kernel_rfl) hb 0 ns cd a ha _)) HS.out ?_
  refine lastStore 13 9 (.tmp 16) (.tmp 15) (.pointer (some ⟨hb, 0 + a, none⟩)) (textV x) _ (by kernel_rfl) (by kernel_rfl) (by kernel_rfl) rfl (by kernel_rfl) (by kernel_rfl) (store_one (by kernel_rfl) rfl rfl (by rw [HT.out.1]; rfl) HT.out.2 (by rw [add_plain]; rfl)) ?_
  simp only [put_some, put_none, List.setIfInBounds_toArray, List.set_cons_succ, List.set_cons_zero]
  rw [Nat.zero_add a]
  have H9 := Lib.hid HP.out.1
  have K9 := Lib.hid (K1.out.trans HP.out.2)
  clear HP HS HT K1
  go_wp2_with fail
  go_end0
  exact ⟨rfl, H9.out, K9.out⟩
end
end refRack
end Go.Proofs.YthioanenljpclaaGreatDoor
