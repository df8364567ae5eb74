/-
 'slices.Replace' as the parts use it, each by one contract. Conditions: the rows are short; what is put lies in a block of its own.
-/
import Derived.Test.YtgbehfkimchglaaGreatDoorSpcRep3M
import Derived.Deep.LoopGhost
import Derived.OrdersHeld
import Derived.StillTail
namespace Go.Proofs.YtgbehfkimchglaaGreatDoor
open Go Go.RowKit
set_option maxRecDepth 100000
set_option linter.unusedVariables false
namespace Sp
theorem grown_any {a c : World} (h : a.grownBy c none) (row : Option Nat) : a.grownBy c row := ⟨h.os, h.tape, h.output, h.size, fun i hi _ => h.block i hi (by simp)⟩
def RepPost (w : World) (base : Nat) (v : Value) (r : List Rg) (v' : Value) (w' : World) : Prop := Own w' base v' r ∧ w.grownBy w' v.ownBlock ∧ (v'.ownBlock = v.ownBlock ∨ v'.ownBlock = some w.heap.size)
theorem Put.of {w : World} {g vb m c : Nat} {d : List Rg} (h : Pl w vb d) (hne : vb ≠ g) (hm : m = d.length) : Put w g (.slice (some ⟨vb, 0, none⟩) m c) m d := ⟨hm, .inr ⟨vb, c, rfl, hne, h⟩⟩
theorem replace_one {w : World} {base : Nat} {v : Value} {l : List Rg} {r : Rg} {vb mc i j : Nat} (h : Own w base v l) (hb : base ≤ w.heap.size) (hl : l.length ≤ 100000) (hs : Pl w vb [r]) (hne : v.ownBlock ≠ some vb) (hij : i ≤ j) (hj : j ≤ l.length) :
  Calls Tryz.prog 177 #[v, .int .i64 (i : Int), .int .i64 (j : Int), .slice (some ⟨vb, 0, none⟩) 1 mc] w fun e w' => ∃ v', e = .returned v' ∧ RepPost w base v (l.take i ++ ([r] ++ l.drop j)) v' w' := by
 obtain ⟨A, c, hv, _, hlc, hcm, hA⟩ := h.shape
 by_cases e : i = j
 ·subst e
  subst hv
  refine replace_ins (base := base) (R := RepPost w base (.slice A l.length c) (l.take i ++ ([r] ++ l.drop i))) hj hl hlc hcm hA ⟨_, _, rfl⟩ ?_
  by_cases e2 : i = l.length
  ·subst e2
   rw [List.take_of_length_le (Nat.le_refl _), List.drop_of_length_le (Nat.le_refl _), List.append_nil]
   exact insert_end h hb hl hlc hcm (hs.sr (m := 1) rfl) rfl (by omega) (by omega)
  ·have hlt : i < l.length := by omega
   rcases h with ⟨_, e3⟩ | ⟨g, cap, cur, e3, hrest⟩
   ·rw [e3] at hlt; simp at hlt
   ·injection e3 with e4 _ e5
    subst e4 e5
    have h' : Own w base (.slice (some ⟨g, 0, none⟩) l.length c) l := .inr ⟨g, c, cur, rfl, hrest⟩
    by_cases hc : c < l.length + 1
    ·exact (insert_grow h' hb hl hs.cs (m := 1) rfl (by omega) (by omega) hlt hc).mono fun e w' ⟨v', h1, h2, h3, h4⟩ => ⟨v', h1, h2, grown_any h3 _, .inr h4⟩
    ·exact (insert_shift h' hl hs (fun e => hne (congrArg some e.symm)) (m := 1) rfl (by omega) (by omega) (by omega)).mono fun e w' ⟨v', h1, h2, h3, h4⟩ => ⟨v', h1, h2, h3, .inl h4⟩
 ·have hlt : i < l.length := by omega
  rcases h with ⟨_, e3⟩ | ⟨g, cap, cur, e3, hrest⟩
  ·rw [e3] at hlt; simp at hlt
  ·rw [hv] at e3
   injection e3 with e4 _ e5
   subst hv e4 e5
   have h' : Own w base (.slice (some ⟨g, 0, none⟩) l.length c) l := .inr ⟨g, c, cur, rfl, hrest⟩
   have hp : Put w g (.slice (some ⟨vb, 0, none⟩) 1 mc) 1 [r] := Put.of hs (fun e => hne (congrArg some e.symm)) rfl
   by_cases e2 : j = l.length
   ·subst e2
    rw [List.drop_of_length_le (Nat.le_refl _), List.append_nil]
    by_cases hm : i + 1 < l.length
    ·exact (replace_end_less h' hl hp hm).mono fun e w' ⟨v', h1, h2, h3, h4⟩ => ⟨v', h1, h2, h3, .inl h4⟩
    ·exact (replace_end_more h' hb hl hp (by omega) hlt (by omega)).mono fun e w' ⟨v', h1, h2, h3, h4⟩ => ⟨v', h1, h2, h3, h4⟩
   ·exact (replace_less h' hl hp (by omega) (by omega) (by omega)).mono fun e w' ⟨v', h1, h2, h3, h4⟩ => ⟨v', h1, h2, h3, .inl h4⟩
theorem replace_out {w : World} {base : Nat} {v x : Value} {l d : List Rg} {m i : Nat} (h : Own w base v l) (hb : base ≤ w.heap.size) (hl : l.length ≤ 100000) (hx : ∀ g, v.ownBlock = some g → Put w g x m d) (hm2 : m ≤ 2) (hi : i < l.length) :
  Calls Tryz.prog 177 #[v, .int .i64 (i : Int), .int .i64 ((i + 1 : Nat) : Int), x] w fun e w' => ∃ v', e = .returned v' ∧ RepPost w base v (l.take i ++ (d ++ l.drop (i + 1))) v' w' := by
 rcases h with ⟨_, e3⟩ | ⟨g, c, cur, rfl, hrest⟩
 ·rw [e3] at hi; simp at hi
 ·have h' : Own w base (.slice (some ⟨g, 0, none⟩) l.length c) l := .inr ⟨g, c, cur, rfl, hrest⟩
  have hp := hx g rfl
  have hm := hp.1
  by_cases e2 : i + 1 = l.length
  ·rw [List.drop_of_length_le (by omega), List.append_nil, e2]
   by_cases hm : i + m < l.length
   ·exact (replace_end_less h' hl hp hm).mono fun e w' ⟨v', h1, h2, h3, h4⟩ => ⟨v', h1, h2, h3, .inl h4⟩
   ·exact (replace_end_more h' hb hl hp hm2 hi (by omega)).mono fun e w' ⟨v', h1, h2, h3, h4⟩ => ⟨v', h1, h2, h3, h4⟩
  ·by_cases h1m : m ≤ 1
   ·exact (replace_less h' hl hp (by omega) (by omega) (by omega)).mono fun e w' ⟨v', h1, h2, h3, h4⟩ => ⟨v', h1, h2, h3, .inl h4⟩
   ·obtain ⟨_, ⟨rfl, rfl⟩ | ⟨vb, mc, rfl, hne, hs⟩⟩ := hp
    ·simp at hm; omega
    ·by_cases hc : c < i + m + (l.length - (i + 1))
     ·exact (replace_grow h' hb hl hs hm hm2 (by omega) (by omega) hc).mono fun e w' ⟨v', h1, h2, h3, h4⟩ => ⟨v', h1, h2, grown_any h3 _, .inr h4⟩
     ·exact (replace_more h' hl hs hne hm (by omega) (by omega) (by omega) (by omega) (by omega)).mono fun e w' ⟨v', h1, h2, h3, h4⟩ => ⟨v', h1, h2, h3, .inl h4⟩
end Sp
end Go.Proofs.YtgbehfkimchglaaGreatDoor
namespace Go.Proofs.YtgbehfkimchglaaGreatDoor
open Go Go.RowKit
set_option maxRecDepth 100000
set_option linter.unusedVariables false
namespace Sp
set_option maxHeartbeats 800000 in
theorem ending1 (w : World) (b2 b3 g o n c i x y : Nat) (h2 : w.cell? ⟨b2, 0, none⟩ = some (.slice (some ⟨g, o, none⟩) n c)) (h3 : w.cell? ⟨b3, 0, none⟩ = some (.int .i64 (x : Int))) (hi : i < n) (hn : n ≤ 100000)
  (hc : w.cell? ⟨g, o + i * 2 + 1, none⟩ = some (.int .i64 (y : Int))) :
  Calls Tryz.prog 205 #[.int .i64 (i : Int), .pointer (some ⟨b2, 0, none⟩), .pointer (some ⟨b3, 0, none⟩)] w fun e w' => e = .returned (.bool (decide (x ≤ y))) ∧ w' = w.drew := by
 have i1 : (0 : Int) ≤ (i : Int) := by omega
 have i2 : (i : Int) < (n : Int) := by omega
 go_enter Tryz.func205, Tryz.ntmps205
 go_wp2_with fail
 go_region
 go_wp2_with fail
 go_ret
 exact ⟨rfl, rfl⟩
set_option maxHeartbeats 1600000 in
theorem search (w : World) (b2 b3 c x : Nat) (A : Option Addr) (l : List Rg) (h2 : w.cell? ⟨b2, 0, none⟩ = some (.slice A l.length c)) (h3 : w.cell? ⟨b3, 0, none⟩ = some (.int .i64 (x : Int))) (hn : l.length ≤ 100000)
  (hA : Rd w A l) {lo0 : Nat} (hr : Ris lo0 l) :
  Calls Tryz.prog 204 #[.int .i64 (l.length : Int), .func (.func 205) #[] #[.pointer (some ⟨b2, 0, none⟩), .pointer (some ⟨b3, 0, none⟩)]] w fun e w' => e = .returned (.int .i64 (pos x l : Int)) ∧ ∃ q, w' = w.drewN q := by
 obtain ⟨n, hnn⟩ : ∃ n, n = l.length := ⟨_, rfl⟩
 obtain ⟨P, hP⟩ : ∃ P, P = pos x l := ⟨_, rfl⟩
 have hPn : P ≤ n := by rw [hP, hnn]; exact pos_le x l
 have hnb : n ≤ 100000 := by omega
 rw [← hnn, ← hP]
 have HE : Hid (∀ q i, i < n → Calls Tryz.prog 205 #[.int .i64 (i : Int), .pointer (some ⟨b2, 0, none⟩), .pointer (some ⟨b3, 0, none⟩)] (w.drewN q) fun e w' => e = .returned (.bool (decide (P ≤ i))) ∧ w' = (w.drewN q).drew) := Lib.hid fun q i hi => by
  have hi' : i < l.length := by omega
  obtain ⟨g, o, hAe, hc⟩ : ∃ g o, A = some ⟨g, o, none⟩ ∧ ∀ j v, (rcells l)[j]? = some v → w.cell? ⟨g, o + j, none⟩ = some v := by
   rcases hA with e | ⟨g, o, e, _, hc⟩
   ·rw [e] at hi'; simp at hi'
   ·exact ⟨g, o, e, hc⟩
  subst hAe
  have hg := List.getElem?_eq_getElem hi'
  have h := ending1 (w.drewN q) b2 b3 g o l.length c i x l[i].2 h2 h3 hi' hn (by
   have := hc _ _ (rcells_get hg).2
   rw [← Nat.add_assoc] at this
   exact this)
  have e : decide (x ≤ l[i].2) = decide (P ≤ i) := by
   have hq := hr.pos_eq (x := x) i
   rw [hg, ← hP] at hq
   by_cases h1 : x ≤ l[i].2
   ·rw [decide_eq_true h1, decide_eq_true (hq.1 ⟨_, rfl, decide_eq_true h1⟩).2]
   ·rw [decide_eq_false h1, decide_eq_false (fun h2 => by
     obtain ⟨r, h3, h4⟩ := hq.2 ⟨hi', h2⟩
     injection h3 with h3
     rw [h3] at h1
     exact h1 (of_decide_eq_true h4))]
  rw [e] at h
  exact h
 clear hnn hP hn hA hr h2 h3
 go_enter Tryz.func204, Tryz.ntmps204
 go_wp2_with fail
 go_loopg [5, 6] n (fun kx s5 s6 wr => ∃ (lo hi q : Nat), s5 = .int .i64 lo ∧ s6 = .int .i64 hi ∧ lo ≤ P ∧ P ≤ hi ∧ hi ≤ n ∧ hi - lo ≤ kx ∧ wr = w.drewN q)
 case atStart => exact ⟨0, n, 0, rfl, rfl, Nat.zero_le _, hPn, Nat.le_refl _, by omega, rfl⟩
 case round =>
  obtain ⟨lo, hi, q, rfl, rfl, h1, h2, h3, hg, rfl⟩ := hrel
  by_cases hlt : lo < hi
  ·have hc := HE.out q ((lo + hi) / 2) (by omega)
   rw [show (((lo + hi) / 2 : Nat) : Int) = ((lo : Int) + (hi : Int)) / 2 by omega] at hc
   by_cases hp : P ≤ (lo + hi) / 2
   ·rw [decide_eq_true hp] at hc
    have HC := Lib.hid hc
    clear hc
    go_wp2_with fail
    refine HC.out.mono ?_
    rintro e w' ⟨rfl, rfl⟩
    go_wp2_with fail
    go_roundg ((lo + hi) / 2 - lo)
    case measure => omega
    case rel => exact ⟨lo, (lo + hi) / 2, q + 1, rfl, by rw [show ((lo : Int) + (hi : Int)) / 2 = (((lo + hi) / 2 : Nat) : Int) by omega], h1, hp, by omega, Nat.le_refl _, rfl⟩
   ·rw [decide_eq_false hp] at hc
    have HC := Lib.hid hc
    clear hc
    go_wp2_with fail
    refine HC.out.mono ?_
    rintro e w' ⟨rfl, rfl⟩
    go_wp2_with fail
    go_roundg (hi - ((lo + hi) / 2 + 1))
    case measure => omega
    case rel => exact ⟨(lo + hi) / 2 + 1, hi, q + 1, by rw [show ((lo : Int) + (hi : Int)) / 2 + 1 = (((lo + hi) / 2 + 1 : Nat) : Int) by omega], rfl, by omega, h2, h3, Nat.le_refl _, rfl⟩
  ·obtain rfl : hi = lo := by omega
   obtain rfl : P = hi := by omega
   go_wp2_with fail
   go_ret
   exact ⟨rfl, q, rfl⟩
end Sp
end Go.Proofs.YtgbehfkimchglaaGreatDoor
namespace Go.Proofs.YtgbehfkimchglaaGreatDoor
set_option maxRecDepth 100000
open Go
section
variable {P : Program} {md : Region.Mode} {ops : Array Oper} {Q : Exit → Act → World → Prop} {S : World → Prop} {z : Nat}
def AnyZ (P : Program) (md : Region.Mode) (ops : Array Oper) (Q : Exit → Act → World → Prop) (S : World → Prop) (z : Nat) : Nat → Array Bool → Act → World → Prop
 | 0, listed, a, w => Region.ready md ops listed = [] ∧ Q .normal a w
 | n + 1, listed, a, w => (Region.ready md ops listed = [] → Q .normal a w) ∧
  ∀ i ∈ Region.ready md ops listed, wpOp P ops Q i (fun a' w' => (i ≠ z → S w') ∧ AnyZ P md ops Q S z n (listed.setIfInBounds i true) a' w') a w
theorem AnyZ.any : ∀ (n : Nat) (listed : Array Bool) (a : Act) (w : World), AnyZ P md ops Q S z n listed a w → wpAny P md ops Q n listed a w
 | 0, _, _, _, h => h
 | n + 1, _, _, _, h => ⟨h.1, fun i hi => wpOp_mono (fun a' w' h' => AnyZ.any n _ a' w' h'.2) (h.2 i hi)⟩
theorem AnyZ.first {i : Nat} {oi : Oper} {v : Value} (hi : ops[i]? = some oi) (hsel : ∀ (j : Nat) (o : Oper) cs b, ops[j]? = some o → o.op ≠ .select cs b)
  (hQ : ∀ c a w, Q (.panic c) (a.put oi.dst v) w → Q (.panic c) a w) (hz : (Region.waitsFor md ops z i || decide (ops.size ≤ z)) = true) :
  ∀ (n : Nat) (listed : Array Bool) (a : Act) (w : World),
   (∀ j oj, ops[j]? = some oj → j ≠ i → listed.getD j true = false → (∀ e ∈ oj.after, Region.binds md e = true → e.on ≠ i) → oi.apart ops oj = true) →
   i ∈ Region.ready md ops listed → YieldsIf P ops S oi v a → S w →
   AnyZ P md ops Q S z n (listed.setIfInBounds i true) (a.put oi.dst v) w → AnyZ P md ops Q S z (n + 1) listed a w := by
 intro n
 induction n with
 | zero =>
  intro listed a w _ hr hy hS H
  refine ⟨fun h => (by rw [h] at hr; cases hr), fun j hj => ?_⟩
  by_cases hji : j = i
  ·subst hji
   exact hy.wpOp hi hS ⟨fun _ => hS, H⟩
  ·have h0 := ready_mono hj hji
   rw [H.1] at h0
   cases h0
 | succ n ih =>
  intro listed a w hfree hr hy hS H
  refine ⟨fun h => (by rw [h] at hr; cases hr), fun j hj => ?_⟩
  by_cases hji : j = i
  ·subst hji
   exact hy.wpOp hi hS ⟨fun _ => hS, H⟩
  ·have h1 := H.2 j (ready_mono hj hji)
   have hun := (mem_ready.1 hr).1
   obtain ⟨hjun, oj, hoj, hall⟩ := mem_ready.1 hj
   have hnot : ∀ e ∈ oj.after, Region.binds md e = true → e.on ≠ i := fun e he hb heq => by
    have h4 := hall e he hb
    rw [heq, getD_both hun] at h4
    cases h4
   have hjz : j ≠ z := by
    rintro rfl
    rcases Bool.or_eq_true _ _ |>.mp hz with hz | hz
    rotate_left
    ·have h1 := (Array.getElem?_eq_some_iff.1 hoj).1
     have h2 := of_decide_eq_true hz
     omega
    obtain ⟨o', ho', e, he, hb, hon⟩ := Region.waitsFor_spec hz
    rw [hoj] at ho'
    injection ho' with ho'
    subst ho'
    exact hnot e he hb hon
   have h2 := wpOp_putIf hoj (hfree j oj hoj hji hjun hnot) (fun cs b => hsel i oi cs b hi) (fun cs b => hsel j oj cs b hoj) hQ hy h1
   refine wpOp_mono (fun a' w' h3 => ⟨fun _ => h3.2.1 hjz, ih (listed.setIfInBounds j true) a' w' (fun k ok hk hki hunk hno => ?_) (ready_mono hr (Ne.symm hji)) h3.1 (h3.2.1 hjz) ?_⟩) h2
   ·refine hfree k ok hk hki ?_ hno
    by_cases hjk : j = k
    ·subst hjk
     exact hjun
    ·rw [getD_set_ne true hjk] at hunk
     exact hunk
   ·rw [Array.setIfInBounds_comm _ _ hji]
    exact h3.2.2
theorem AnyZ.take {i : Nat} {oi : Oper} {v : Value} {n : Nat} {listed : Array Bool} {a : Act} {w : World} (hi : ops[i]? = some oi)
  (hs : Region.noSelect ops = true) (hf : Region.free md ops listed i = true) (hr : (Region.ready md ops listed).contains i = true) (hz : (Region.waitsFor md ops z i || decide (ops.size ≤ z)) = true)
  (hQ : ∀ c a w, Q (.panic c) (a.put oi.dst v) w → Q (.panic c) a w) (hy : YieldsIf P ops S oi v a) (hS : S w)
  (h : AnyZ P md ops Q S z n (listed.setIfInBounds i true) (a.put oi.dst v) w) : AnyZ P md ops Q S z (n + 1) listed a w :=
 AnyZ.first hi (Region.noSelect_spec hs) hQ hz n listed a w (Region.free_spec hi hf) (by simpa using hr) hy hS h
theorem AnyZ.one {i : Nat} {n : Nat} {listed : Array Bool} {a : Act} {w : World} (hr : Region.ready md ops listed = [i])
  (h : wpOp P ops Q i (fun a' w' => (i ≠ z → S w') ∧ AnyZ P md ops Q S z n (listed.setIfInBounds i true) a' w') a w) : AnyZ P md ops Q S z (n + 1) listed a w :=
 ⟨fun h0 => (by rw [hr] at h0; cases h0), fun j hj => by
  rw [hr] at hj
  simp at hj
  subst hj
  exact h⟩
theorem AnyZ.done {n : Nat} {listed : Array Bool} {a : Act} {w : World} (hr : Region.ready md ops listed = []) (h : Q .normal a w) : AnyZ P md ops Q S z n listed a w := by
 cases n with
 | zero => exact ⟨hr, h⟩
 | succ n => exact ⟨fun _ => h, fun i hi => (by rw [hr] at hi; cases hi)⟩
theorem region_anyZ (S : World → Prop) (z : Nat) {id : Nat} {a : Act} {w : World} (hm : P.follows .mixedOrders = true) (h : AnyZ P .any ops Q S z ops.size (Array.replicate ops.size false) a w.drew) : (Code.region id ops true).wp P Q a w :=
 wp_region_any hm (AnyZ.any _ _ _ _ h)
theorem yields_if {o : Oper} {v : Value} {a : Act} (hg : o.guard = none) (h : ∀ w, S w → (execOp a.eval o).run P w = .ok (.value v) w) : YieldsIf P ops S o v a :=
 .inl ⟨by simp [Region.wanted, hg], fun w hw => h w hw⟩
theorem wpOp_val {i : Nat} {o : Oper} {v : Value} {a : Act} {w w' : World} {K : Act → World → Prop} (hi : ops[i]? = some o) (hg : o.guard = none) (hl : (execOp a.eval o).run P w = .ok (.value v) w') (h : K (a.put o.dst v) w') : wpOp P ops Q i K a w := by
 have hw : Region.wanted o (yielded ops a.tmps) = true := by simp [Region.wanted, hg]
 unfold wpOp
 simp only [hi, hw, if_true, Oper.wp, hl, Oper.upon]
 exact .inl h
theorem wpOp_skip {i : Nat} {o : Oper} {a : Act} {w w' : World} {K : Act → World → Prop} (hi : ops[i]? = some o) (hg : o.guard = none) (hl : (execOp a.eval o).run P w = .ok .skip w') (h : K (a.put o.dst undef) w') : wpOp P ops Q i K a w := by
 have hw : Region.wanted o (yielded ops a.tmps) = true := by simp [Region.wanted, hg]
 unfold wpOp
 simp only [hi, hw, if_true, Oper.wp, hl, Oper.upon]
 exact .inl h
theorem wpOp_op {i : Nat} {o : Oper} {a : Act} {w : World} {K : Act → World → Prop} (hi : ops[i]? = some o) (hg : o.guard = none) (h : o.wp P a w K Q) : wpOp P ops Q i K a w := by
 have hw : Region.wanted o (yielded ops a.tmps) = true := by simp [Region.wanted, hg]
 unfold wpOp
 simp only [hi, hw, if_true]
 exact .inl h
end
end Go.Proofs.YtgbehfkimchglaaGreatDoor
