/-
  What lasts behind a flush or a crash: the rack's first map, entry by entry. Conditions: the rack is one.
-/
import Derived.Test.YtkbndlnmbbbohaaGreatDoorRackWriteM
import Derived.Test.YtkbndlnmbbbohaaGreatDoorSpcPartM
import Derived.Maps.RangeWalk
import Derived.Laws.BitsLemmas
import Derived.Laws.BytesArg
import Derived.Test.YtkbndlnmbbbohaaGreatDoorStrBM
import Derived.Laws.StructEq
namespace Go.Proofs.YtkbndlnmbbbohaaGreatDoor
set_option maxRecDepth 100000
open Go.RowKit
set_option linter.unusedVariables false

/-- what lasts when of the first k that wait those are kept that P names -/
def RS.lay (s : RS) (P : Nat → Bool) : Nat → Nat → Nat → Nat → Nat
  | 0 => s.last
  | k + 1 => fun d a => if P k = true ∧ (s.W k).d = d ∧ (s.W k).a = a then (s.W k).x else s.lay P k d a
/-- behind a flush, or a crash -/
def RS.laid (s : RS) (P : Nat → Bool) : RS := { s with nw := 0, last := s.lay P s.nw }
theorem RS.lay_lt {s : RS} (h : s.ok) (P : Nat → Bool) : ∀ k, k ≤ s.nw → ∀ d a j, j < 128 → s.lay P k d a j < 256
  | 0, _, d, a, j, hj => h.lp d a j hj
  | k + 1, hk, d, a, j, hj => by
    unfold RS.lay
    split
    · exact (h.wp k (by omega)).2.2 j hj
    · exact RS.lay_lt h P k (by omega) d a j hj
theorem RS.ok.laid {s : RS} (h : s.ok) (P : Nat → Bool) : (s.laid P).ok :=
  ⟨h.nd1, h.nd2, h.ns1, h.ns2, h.left, h.cost, fun i hi => absurd hi (Nat.not_lt_zero _), fun d a j hj => RS.lay_lt h P s.nw (Nat.le_refl _) d a j hj⟩
section
variable {B : Nat} {w w' : World} {r m1 m2 : Nat} {v : Value} {s : RS} {k : Nat} {P : Nat → Bool}
end
end Go.Proofs.YtkbndlnmbbbohaaGreatDoor
namespace Go.Proofs.YtkbndlnmbbbohaaGreatDoor
set_option maxRecDepth 100000
open Go.RowKit
set_option linter.unusedVariables false

end Go.Proofs.YtkbndlnmbbbohaaGreatDoor
namespace Go.Proofs.YtkbndlnmbbbohaaGreatDoor
set_option maxRecDepth 100000
open Go.RowKit
set_option linter.unusedVariables false

/-- a slice of n ints -/
def Ints (w : World) (A : Option Addr) (n : Nat) (p : Nat → Int) : Prop :=
  (∀ i, i < n → -9223372036854775808 ≤ p i ∧ p i ≤ 9223372036854775807) ∧ n ≤ maxLen ∧ (n = 0 ∨ ∃ g o t cs, A = some ⟨g, o, none⟩ ∧ Blk w g t cs ∧ (t == 68 || t == 124) = false ∧ ∀ i, i < n → cs[o + i]? = some (.int .i64 (p i)))
theorem Ints.keep {B : Nat} {w w' : World} {A : Option Addr} {n : Nat} {p : Nat → Int} (h : Ints w A n p) (hk : Keep B w w') : Ints w' A n p := by
  obtain ⟨h1, h2, h3⟩ := h
  refine ⟨h1, h2, ?_⟩
  rcases h3 with h3 | ⟨g, o, t, cs, h4, h5, h6, h7⟩
  · exact .inl h3
  · exact .inr ⟨g, o, t, cs, h4, hk.block h5 h6, h6, h7⟩
end Go.Proofs.YtkbndlnmbbbohaaGreatDoor
namespace Go.Proofs.YtkbndlnmbbbohaaGreatDoor
set_option maxRecDepth 100000
open Go.RowKit
set_option linter.unusedVariables false

/-- what is left of the sectors' map: nothing of drive d -/
def wipeF (F : Nat → Nat → Option Value) (d d' a' : Nat) : Option Value := if d' = d then none else F d' a'
def GoneTo (D0 D : DataW Value) (d : Nat) (left : Lit → Bool) : Prop :=
  Maps.IsMap D ∧ ∀ d' a', d' < 4611686018427387904 → a' < 4611686018427387904 → ∀ zd, D.atKey (klit d' a') zd = if d' = d ∧ left (klit d' a') = false then zd else D0.atKey (klit d' a') zd
theorem klit_of {key : Value} {kl : Lit} {i j : Int} (hk : keyOf Tryz.prog 119 key = some kl) (he : key = .agg #[.int .i64 i, .int .i64 j]) {d' a' : Nat} (hd : d' < 4611686018427387904) (ha : a' < 4611686018427387904) (h : klit d' a' = kl) : i = (d' : Int) ∧ j = (a' : Int) := by
  have h1 := key_ok hd ha
  rw [h] at h1
  have h2 := keyed.inj hk h1
  rw [he] at h2
  unfold pkey at h2
  simp at h2
  exact h2
theorem GoneTo.keep {D0 D : DataW Value} {d : Nat} {left : Lit → Bool} (h : GoneTo D0 D d left) {key : Value} {kl : Lit} {i j : Int} (hk : keyOf Tryz.prog 119 key = some kl) (he : key = .agg #[.int .i64 i, .int .i64 j]) (hi : i ≠ (d : Int)) :
    GoneTo D0 D d (fun z => left z && !z.sameKey kl) := by
  refine ⟨h.1, fun d' a' hd ha zd => ?_⟩
  rw [h.2 d' a' hd ha zd]
  by_cases e : klit d' a' = kl
  · have h2 := klit_of hk he hd ha e
    have h3 : ¬ d' = d := fun x => hi (by rw [h2.1, x])
    rw [if_neg (fun x => h3 x.1), if_neg (fun x => h3 x.1)]
  · have h4 : (klit d' a').sameKey kl = false := Maps.sameKey_ne e
    simp [h4]
theorem GoneTo.strike {D0 D : DataW Value} {d : Nat} {left : Lit → Bool} (h : GoneTo D0 D d left) {key : Value} {kl : Lit} {i j : Int} (hk : keyOf Tryz.prog 119 key = some kl) (he : key = .agg #[.int .i64 i, .int .i64 j]) (hi : i = (d : Int)) :
    GoneTo D0 (D.del kl) d (fun z => left z && !z.sameKey kl) := by
  refine ⟨h.1.del kl, fun d' a' hd ha zd => ?_⟩
  by_cases e : klit d' a' = kl
  · have h2 := klit_of hk he hd ha e
    have h3 : d' = d := by omega
    have h4 : kl.sameKey kl = true := WideAt.sameKey_self (keyed.key hk)
    rw [e, if_pos ⟨h3, by simp [h4]⟩, Maps.atKey_del_same]
  · have h4 : (klit d' a').sameKey kl = false := Maps.sameKey_ne e
    rw [Maps.atKey_del_other e, h.2 d' a' hd ha zd]
    simp [h4]

end Go.Proofs.YtkbndlnmbbbohaaGreatDoor
namespace Go.Proofs.YtkbndlnmbbbohaaGreatDoor
set_option maxRecDepth 100000
open Go.RowKit
set_option linter.unusedVariables false

/-- those that wait for other drives than d -/
def keptL (W : Nat → Wt) (d : Nat) : Nat → List Wt
  | 0 => []
  | k + 1 => if (W k).d = d then keptL W d k else keptL W d k ++ [W k]
theorem keptL_mem {W : Nat → Wt} {d : Nat} {v : Wt} : ∀ {k}, v ∈ keptL W d k → ∃ i, i < k ∧ W i = v ∧ v.d ≠ d
  | 0, h => by cases h
  | k + 1, h => by
    unfold keptL at h
    split at h
    · obtain ⟨i, h1, h2⟩ := keptL_mem h
      exact ⟨i, by omega, h2⟩
    · rename_i hne
      rw [List.mem_append] at h
      rcases h with h | h
      · obtain ⟨i, h1, h2⟩ := keptL_mem h
        exact ⟨i, by omega, h2⟩
      · simp at h
        exact ⟨k, by omega, h.symm, by rw [h]; exact hne⟩
/-- behind the loss of all that drive d holds -/
def RS.wiped (s : RS) (d : Nat) : RS :=
  { s with nw := (keptL s.W d s.nw).length, W := fun i => (keptL s.W d s.nw).getD i ⟨0, 0, zeros⟩, last := fun d' a' => if d' = d then zeros else s.last d' a' }
theorem RS.ok.wiped {s : RS} (h : s.ok) (d : Nat) : (s.wiped d).ok := by
  refine ⟨h.nd1, h.nd2, h.ns1, h.ns2, h.left, h.cost, fun i hi => ?_, fun d' a' j hj => ?_⟩
  · have hi' : i < (keptL s.W d s.nw).length := hi
    have e : (s.wiped d).W i = (keptL s.W d s.nw)[i] := by
      show (keptL s.W d s.nw).getD i ⟨0, 0, zeros⟩ = _
      simp [List.getD_eq_getElem?_getD, hi']
    rw [e]
    obtain ⟨k, h1, h2, _⟩ := keptL_mem (List.getElem_mem hi')
    rw [← h2]
    exact h.wp k h1
  · show (if d' = d then zeros else s.last d' a') j < 256
    split
    · exact Nat.succ_pos _
    · exact h.lp d' a' j hj
/-- what lasts of other drives -/
def RS.cleared (s : RS) (d : Nat) : RS := { s with last := fun d' a' => if d' = d then zeros else s.last d' a' }
theorem RackK.cleared {B : Nat} {w w' : World} {r m1 m2 k : Nat} {v : Value} {s : RS} (h : RackK B w r m1 m2 v s k) (d : Nat) {n : Nat} {F : Nat → Nat → Option Value} (f1 : n + s.nw ≤ s.cost)
    (f3 : ∀ d a, d < 4611686018427387904 → a < 4611686018427387904 → (F d a).getD (.agg (secA zeros)) = .agg (secA (s.last d a))) (hm : MapS w' m1 n (wipeF F d)) (hg : w.grownBy w' (some m1)) : RackK B w' r m1 m2 v (s.cleared d) k := by
  refine ⟨h.blk.grown hg (fun e => h.ne1 (by injection e with e; exact e.symm)), h.hr, h.h1, h.h2, h.ne, ⟨n, _, f1, hm, fun d' a' hd ha => ?_⟩, h.newest.grown hg (fun e => h.ne (by injection e with e; exact e.symm)), h.row.1, ?_⟩
  · show _ = Value.agg (secA (if d' = d then zeros else s.last d' a'))
    unfold wipeF
    by_cases e : d' = d
    · rw [if_pos e, if_pos e]
      rfl
    · rw [if_neg e, if_neg e]
      exact f3 d' a' hd ha
  · rcases h.row.2 with e | ⟨g, cap, cur, rfl, g1, g2, g3⟩
    · exact .inl e
    · exact .inr ⟨g, cap, cur, rfl, g1, (hg.block g (Array.getElem?_eq_some_iff.1 g2).1 (fun e => h.row_ne1 (by rw [← e]; rfl))).trans g2, g3⟩
theorem own_new {w w' : World} {B n c : Nat} {v : Value} {xs : List Value} (h : w.ownsRow B 124 c v n xs) (hb : Below w.heap.size w w') : w'.ownsRow B 124 c v n xs := by
  refine ⟨h.1, ?_⟩
  rcases h.2 with e | ⟨g, cap, cur, e, k1, k2, k3⟩
  · exact .inl e
  · exact .inr ⟨g, cap, cur, e, k1, (hb.block g (Array.getElem?_eq_some_iff.1 k2).1).trans k2, k3⟩
/-- drive d gone, or there -/
def RS.setGone (s : RS) (d : Nat) (b : Bool) : RS := { s with gone := fun i => if i = d then b else s.gone i }
theorem RackK.setGone {B : Nat} {w : World} {r m1 m2 k : Nat} {v : Value} {s : RS} (h : RackK B w r m1 m2 v s k) {d : Nat} (hd : d < 16) (b : Bool) : RackK B (w.setCell ⟨r, 5 + d, none⟩ (.bool b)) r m1 m2 v (s.setGone d b) k := by
  refine h.put (i := 5 + d) (by omega) ?_ (fun j hj hne => ?_) rfl rfl rfl rfl
  · unfold rackCell
    rw [if_neg (by omega), if_neg (by omega), if_neg (by omega), if_neg (by omega), if_neg (by omega), if_pos (by omega)]
    show Value.bool (if 5 + d - 5 = d then b else _) = _
    rw [if_pos (by omega)]
  · by_cases h1 : 5 ≤ j ∧ j < 21
    · unfold rackCell
      rw [if_neg (by omega), if_neg (by omega), if_neg (by omega), if_neg (by omega), if_neg (by omega), if_pos (by omega)]
      rw [if_neg (by omega), if_neg (by omega), if_neg (by omega), if_neg (by omega), if_neg (by omega), if_pos (by omega)]
      show Value.bool (if j - 5 = d then b else _) = _
      rw [if_neg (by omega)]
    · unfold rackCell
      by_cases h2 : j < 5
      · rcases (by omega : j = 0 ∨ j = 1 ∨ j = 2 ∨ j = 3 ∨ j = 4) with e | e | e | e | e <;> subst e <;> rfl
      · rcases (by omega : j = 21 ∨ j = 22 ∨ j = 23) with e | e | e <;> subst e <;> rfl
theorem RS.ok.setGone {s : RS} (h : s.ok) (d : Nat) (b : Bool) : (s.setGone d b).ok := ⟨h.nd1, h.nd2, h.ns1, h.ns2, h.left, h.cost, h.wp, h.lp⟩
def RS.lost (s : RS) (d : Nat) : RS := (s.wiped d).setGone d true
def RS.anew (s : RS) (d : Nat) : RS := (s.wiped d).setGone d false
end Go.Proofs.YtkbndlnmbbbohaaGreatDoor
namespace Go.Proofs.YtkbndlnmbbbohaaGreatDoor
set_option maxRecDepth 100000
open Go Go.RowKit

section
variable {P : Program} {md : Region.Mode} {ops : Array Oper} {Q : Exit → Act → World → Prop} {S : World → Prop} {z : Nat}
/-- z waits for i, or for what does -/
inductive Deep (md : Region.Mode) (ops : Array Oper) : Nat → Nat → Prop
  | one {z i : Nat} : Region.waitsFor md ops z i = true → Deep md ops z i
  | step {z k i : Nat} : Region.waitsFor md ops z k = true → Deep md ops k i → Deep md ops z i
def deepB (md : Region.Mode) (ops : Array Oper) : Nat → Nat → Nat → Bool
  | 0, _, _ => false
  | f + 1, z, i => Region.waitsFor md ops z i || (List.range ops.size).any fun k => Region.waitsFor md ops z k && deepB md ops f k i
theorem deepB_spec : ∀ {f z i : Nat}, deepB md ops f z i = true → Deep md ops z i
  | 0, _, _, h => by cases h
  | f + 1, z, i, h => by
    unfold deepB at h
    rw [Bool.or_eq_true] at h
    rcases h with h | h
    · exact .one h
    · obtain ⟨k, _, hk⟩ := List.any_eq_true.1 h
      rw [Bool.and_eq_true] at hk
      exact .step hk.1 (deepB_spec hk.2)
/-- what stands before what is listed is listed -/
def Closed (md : Region.Mode) (ops : Array Oper) (listed : Array Bool) : Prop :=
  ∀ j oj, ops[j]? = some oj → listed.getD j false = true → ∀ e ∈ oj.after, Region.binds md e = true → listed.getD e.on false = true
def closedB (md : Region.Mode) (ops : Array Oper) (listed : Array Bool) : Bool :=
  (List.range ops.size).all fun j => !listed.getD j false || match ops[j]? with
    | some oj => oj.after.all fun e => !Region.binds md e || listed.getD e.on false
    | none => true
theorem closedB_spec {listed : Array Bool} (h : closedB md ops listed = true) : Closed md ops listed := by
  intro j oj hj hl e he hb
  have h1 := List.all_eq_true.1 h j (List.mem_range.2 (Array.getElem?_eq_some_iff.1 hj).1)
  simp only [hl, hj, Bool.not_true, Bool.false_or] at h1
  have h2 := Array.all_eq_true_iff_forall_mem.1 h1 e he
  simpa [hb] using h2
theorem Closed.set {listed : Array Bool} {i : Nat} (h : Closed md ops listed) (hi : i ∈ Region.ready md ops listed) : Closed md ops (listed.setIfInBounds i true) := by
  obtain ⟨_, oi, hoi, hall⟩ := mem_ready.1 hi
  intro j oj hj hl e he hb
  by_cases hij : i = j
  · subst hij
    have : oj = oi := Option.some.inj (hj.symm.trans hoi)
    subst this
    exact getD_set_true (hall e he hb)
  · rw [getD_set_ne false hij] at hl
    exact getD_set_true (h j oj hj hl e he hb)
theorem Deep.unlisted {listed : Array Bool} (hc : Closed md ops listed) {z i : Nat} (h : Deep md ops z i) (hi : listed.getD i false = false) : listed.getD z false = false := by
  induction h with
  | one h =>
    obtain ⟨o, ho, e, he, hb, hon⟩ := Region.waitsFor_spec h
    cases hz : listed.getD _ false with
    | false => rfl
    | true =>
      have := hc _ o ho hz e he hb
      rw [hon, hi] at this
      cases this
  | step h _ ih =>
    obtain ⟨o, ho, e, he, hb, hon⟩ := Region.waitsFor_spec h
    have hk := ih hi
    cases hz : listed.getD _ false with
    | false => rfl
    | true =>
      have := hc _ o ho hz e he hb
      rw [hon, hk] at this
      cases this
theorem Deep.not_ready {listed : Array Bool} (hc : Closed md ops listed) {z i : Nat} (h : Deep md ops z i) (hi : listed.getD i false = false) : z ∉ Region.ready md ops listed := by
  intro hr
  obtain ⟨_, o, ho, hall⟩ := mem_ready.1 hr
  cases h with
  | one h =>
    obtain ⟨o', ho', e, he, hb, hon⟩ := Region.waitsFor_spec h
    rw [ho] at ho'
    injection ho' with ho'
    subst ho'
    have := hall e he hb
    rw [hon, hi] at this
    cases this
  | step h h2 =>
    obtain ⟨o', ho', e, he, hb, hon⟩ := Region.waitsFor_spec h
    rw [ho] at ho'
    injection ho' with ho'
    subst ho'
    have := hall e he hb
    rw [hon, h2.unlisted hc hi] at this
    cases this

theorem AnyZ.firstC {i : Nat} {oi : Oper} {v : Value} (hi : ops[i]? = some oi) (hsel : ∀ (j : Nat) (o : Oper) cs b, ops[j]? = some o → o.op ≠ .select cs b)
    (hQ : ∀ c a w, Q (.panic c) (a.put oi.dst v) w → Q (.panic c) a w) (hz : Deep md ops z i) :
    ∀ (n : Nat) (listed : Array Bool) (a : Act) (w : World), Closed md ops listed →
      (∀ j oj, ops[j]? = some oj → j ≠ i → listed.getD j true = false → (∀ e ∈ oj.after, Region.binds md e = true → e.on ≠ i) → oi.apart ops oj = true) →
      i ∈ Region.ready md ops listed → YieldsIf P ops S oi v a → S w →
      AnyZ P md ops Q S z n (listed.setIfInBounds i true) (a.put oi.dst v) w → AnyZ P md ops Q S z (n + 1) listed a w := by
  intro n
  induction n with
  | zero =>
    intro listed a w _ _ hr hy hS H
    refine ⟨fun h => (by rw [h] at hr; cases hr), fun j hj => ?_⟩
    by_cases hji : j = i
    · subst hji
      exact hy.wpOp hi hS ⟨fun _ => hS, H⟩
    · have h0 := ready_mono hj hji
      rw [H.1] at h0
      cases h0
  | succ n ih =>
    intro listed a w hcl hfree hr hy hS H
    refine ⟨fun h => (by rw [h] at hr; cases hr), fun j hj => ?_⟩
    by_cases hji : j = i
    · subst hji
      exact hy.wpOp hi hS ⟨fun _ => hS, H⟩
    · have h1 := H.2 j (ready_mono hj hji)
      have hun := (mem_ready.1 hr).1
      obtain ⟨hjun, oj, hoj, hall⟩ := mem_ready.1 hj
      have hnot : ∀ e ∈ oj.after, Region.binds md e = true → e.on ≠ i := fun e he hb heq => by
        have h4 := hall e he hb
        rw [heq, getD_both hun] at h4
        cases h4
      have hjz : j ≠ z := by
        rintro rfl
        exact hz.not_ready hcl (getD_both hun) hj
      have h2 := wpOp_putIf hoj (hfree j oj hoj hji hjun hnot) (fun cs b => hsel i oi cs b hi) (fun cs b => hsel j oj cs b hoj) hQ hy h1
      refine wpOp_mono (fun a' w' h3 => ⟨fun _ => h3.2.1 hjz, ih (listed.setIfInBounds j true) a' w' (hcl.set hj) (fun k ok hk hki hunk hno => ?_) (ready_mono hr (Ne.symm hji)) h3.1 (h3.2.1 hjz) ?_⟩) h2
      · refine hfree k ok hk hki ?_ hno
        by_cases hjk : j = k
        · subst hjk
          exact hjun
        · rw [getD_set_ne true hjk] at hunk
          exact hunk
      · rw [Array.setIfInBounds_comm _ _ hji]
        exact h3.2.2
def takeDB (md : Region.Mode) (ops : Array Oper) (z : Nat) (listed : Array Bool) (i : Nat) : Bool :=
  Region.noSelect ops && Region.free md ops listed i && (Region.ready md ops listed).contains i && closedB md ops listed && deepB md ops 3 z i
/-- as takeG, where the last operation waits by others' waiting -/
theorem takeD {n : Nat} {listed : Array Bool} {a : Act} {w : World} (i : Nat) (op : Op) (d : Option Tmp) (g : Option (Nat × Bool)) (v : Value) (ho : isOp ops i = some (op, d, g)) (hw : wantG g (yielded ops a.tmps) = true) (hB : takeDB md ops z listed i = true)
    (hQ : ∀ c a w, Q (.panic c) (a.put d v) w → Q (.panic c) a w) (hy : ∀ (o : Oper) w, o.op = op → S w → (execOp a.eval o).run P w = .ok (.value v) w) (hS : S w)
    (h : AnyZ P md ops Q S z n (listed.setIfInBounds i true) (a.put d v) w) : AnyZ P md ops Q S z (n + 1) listed a w := by
  obtain ⟨o, h1, h2, rfl, h4⟩ := isOpG_spec ho
  simp only [takeDB, Bool.and_eq_true] at hB
  exact AnyZ.firstC h1 (Region.noSelect_spec hB.1.1.1.1) hQ (deepB_spec hB.2) n listed a w (closedB_spec hB.1.2) (Region.free_spec h1 hB.1.1.1.2) (by simpa using hB.1.1.2) (.inl ⟨want_of h4 hw, fun w hw => hy o w h2 hw⟩) hS h
end
end Go.Proofs.YtkbndlnmbbbohaaGreatDoor
namespace Go.Proofs.YtkbndlnmbbbohaaGreatDoor
set_option maxRecDepth 100000
open Go.RowKit
set_option linter.unusedVariables false

/-- many cells stored one behind the other -/
def setAll (cs : Array Value) (o : Nat) : List Value → Array Value
  | [] => cs
  | v :: r => setAll (cs.setIfInBounds o v) (o + 1) r
theorem setAll_size : ∀ (vs : List Value) (cs : Array Value) (o : Nat), (setAll cs o vs).size = cs.size
  | [], _, _ => rfl
  | v :: r, cs, o => by
    unfold setAll
    rw [setAll_size r, Array.size_setIfInBounds]
theorem setAll_get : ∀ (vs : List Value) (cs : Array Value) (o p : Nat), p < cs.size → (setAll cs o vs)[p]? = if o ≤ p ∧ p < o + vs.length then vs[p - o]? else cs[p]?
  | [], cs, o, p, h => by
    rw [if_neg (fun x => by have h1 := x.1; have h2 : p < o + 0 := x.2; omega)]
    rfl
  | v :: r, cs, o, p, h => by
    unfold setAll
    rw [setAll_get r _ _ _ (by rw [Array.size_setIfInBounds]; exact h)]
    by_cases h1 : o + 1 ≤ p ∧ p < o + 1 + r.length
    · rw [if_pos h1, if_pos (by simp; omega), show p - o = (p - (o + 1)) + 1 by omega, List.getElem?_cons_succ]
    · rw [if_neg h1]
      by_cases h2 : p = o
      · subst h2
        rw [if_pos ⟨Nat.le_refl _, by simp⟩, Nat.sub_self, Array.getElem?_setIfInBounds_self_of_lt h]
        rfl
      · rw [if_neg (by simp; omega), Array.getElem?_setIfInBounds_ne (by omega)]
theorem Blk.setCells {g : Nat} {t : TypeId} : ∀ (vs : List Value) (o : Nat) {w : World} {cs : Array Value}, Blk w g t cs → Blk (w.setCells g o vs) g t (setAll cs o vs)
  | [], _, _, _, h => h
  | v :: r, o, _, _, h => Blk.setCells r (o + 1) (h.set_ o v)
theorem grown_setCells (g : Nat) : ∀ (vs : List Value) (o : Nat) (w : World), w.grownBy (w.setCells g o vs) (some g)
  | [], _, w => World.grownBy.refl w _
  | v :: r, o, w => by
    have h1 := grown_set w g o v
    have h2 := grown_setCells g r (o + 1) (w.setCell ⟨g, o, none⟩ v)
    exact ⟨h2.os.trans h1.os, h2.tape.trans h1.tape, h2.output.trans h1.output, Nat.le_trans h1.size h2.size, fun i hi hne => (h2.block i (Nat.lt_of_lt_of_le hi h1.size) hne).trans (h1.block i hi hne)⟩
end Go.Proofs.YtkbndlnmbbbohaaGreatDoor
namespace Go.Proofs.YtkbndlnmbbbohaaGreatDoor
set_option maxRecDepth 100000
open Go.RowKit
set_option linter.unusedVariables false

section
variable {B : Nat} {w w' : World} {r m1 m2 : Nat} {v : Value} {s : RS}
end

end Go.Proofs.YtkbndlnmbbbohaaGreatDoor
namespace Go.Proofs.YtkbndlnmbbbohaaGreatDoor
set_option maxRecDepth 100000
open Go.RowKit
set_option linter.unusedVariables false

end Go.Proofs.YtkbndlnmbbbohaaGreatDoor
namespace Go.Proofs.YtkbndlnmbbbohaaGreatDoor
set_option maxRecDepth 100000
open Go Go.RowKit
set_option linter.unusedVariables false

/-- a row of bytes that a call has answered -/
def Row8 (w : World) (v : Value) (n : Nat) (X : Nat → Nat) : Prop := ∃ g c cs, v = .slice (some ⟨g, 0, none⟩) n c ∧ Blk w g 5 cs ∧ ∀ j, j < n → cs[0 + j]? = some (.int .u8 ((X j : Nat) : Int))
theorem Row8.of_own {w : World} {B n : Nat} {v : Value} {X : Nat → Nat} (h : w.ownsRow B 5 1 v n (rowL n X)) (hn : 0 < n) : Row8 w v n X := by
  rcases h.2 with ⟨_, e⟩ | ⟨g, cap, cur, e, _, hb, _, _, hs, ht⟩
  · omega
  · refine ⟨g, cap, cur, e, hb, fun j hj => ?_⟩
    have h1 := rowL_get X hj
    rw [← ht, List.getElem?_take_of_lt (by omega), Array.getElem?_toList] at h1
    rw [Nat.zero_add]
    exact h1
theorem Row8.of_blk {w : World} {g n c : Nat} {X : Nat → Nat} (h : Blk w g 5 (rowArr n X)) : Row8 w (.slice (some ⟨g, 0, none⟩) n c) n X :=
  ⟨g, c, _, rfl, h, fun j hj => by rw [Nat.zero_add]; exact rowArr_get hj⟩
theorem Row8.conv {w : World} {v : Value} {n : Nat} {X : Nat → Nat} (h : Row8 w v n X) : (convert 41 9 v).run Tryz.prog w = .ok (.string (strB n X)) w := by
  obtain ⟨g, c, cs, rfl, hb, hx⟩ := h
  exact conv_bytes hb hx
theorem Row8.keep {B : Nat} {w w' : World} {v : Value} {n : Nat} {X : Nat → Nat} (h : Row8 w v n X) (hk : Keep B w w') : Row8 w' v n X := by
  obtain ⟨g, c, cs, rfl, hb, hx⟩ := h
  exact ⟨g, c, cs, rfl, hk.block hb rfl, hx⟩
theorem Row8.new_ {w w' : World} {v : Value} {n : Nat} {X : Nat → Nat} (h : Row8 w v n X) (hk : Below w.heap.size w w') : Row8 w' v n X := by
  obtain ⟨g, c, cs, rfl, hb, hx⟩ := h
  exact ⟨g, c, cs, rfl, hb.new_ hk, hx⟩
theorem Row8.drew {w : World} {v : Value} {n : Nat} {X : Nat → Nat} (h : Row8 w v n X) : Row8 w.drew v n X := h
end Go.Proofs.YtkbndlnmbbbohaaGreatDoor
namespace Go.Proofs.YtkbndlnmbbbohaaGreatDoor
open Go Go.RowKit
set_option maxRecDepth 100000
set_option linter.unusedVariables false
namespace refRack
section
variable {B : Nat} {w w' : World} {r g : Nat} {s t : RS}
end
end refRack
end Go.Proofs.YtkbndlnmbbbohaaGreatDoor
namespace Go.Proofs.YtkbndlnmbbbohaaGreatDoor.M
set_option maxRecDepth 100000

def xt (x : Nat) : Nat := if 255 < x * 2 then (x * 2) ^^^ 285 else x * 2
/-- so many doublings -/
def iter : Nat → Nat → Nat
  | 0, x => x
  | k + 1, x => iter k (xt x)
def pw (n : Nat) : Nat := iter n 1
def lgGo : Nat → Nat → Nat → Nat → Nat → Nat
  | 0, _, _, acc, _ => acc
  | k + 1, n, x, acc, v => lgGo k (n + 1) (xt x) (if v = x then n else acc) v
/-- the logarithms' table behind k rounds -/
def lgTo (k v : Nat) : Nat := lgGo k 0 1 0 v
def lg (v : Nat) : Nat := lgTo 255 v

theorem iter_succ (k x : Nat) : iter (k + 1) x = xt (iter k x) := by
  induction k generalizing x with
  | zero => rfl
  | succ k ih => rw [iter, ih (xt x)]; rfl
theorem pw_zero : pw 0 = 1 := rfl
theorem pw_succ (k : Nat) : pw (k + 1) = xt (pw k) := iter_succ k 1
theorem lgGo_succ (k n x acc v : Nat) : lgGo (k + 1) n x acc v = if v = iter k x then n + k else lgGo k n x acc v := by
  induction k generalizing n x acc with
  | zero => show (if v = x then n else acc) = if v = x then n + 0 else acc; rfl
  | succ k ih =>
    have h := ih (n + 1) (xt x) (if v = x then n else acc)
    rw [lgGo, h]
    have e : n + 1 + k = n + (k + 1) := by omega
    rw [e]
    rfl
theorem lgTo_succ (k v : Nat) : lgTo (k + 1) v = if v = pw k then k else lgTo k v := by
  unfold lgTo pw; rw [lgGo_succ, Nat.zero_add]
theorem pw_tab : ∀ n, n < 255 → (1 ≤ pw n ∧ pw n < 256 ∧ lg (pw n) = n) := by decide +kernel
theorem lg_tab : ∀ v, v < 256 → (v = 0 ∨ (lg v < 255 ∧ pw (lg v) = v)) := by decide +kernel
theorem pw_255 : pw 255 = 1 := by decide +kernel

theorem pw_pos {n : Nat} (h : n < 255) : 1 ≤ pw n := (pw_tab n h).1
theorem pw_lt {n : Nat} (h : n < 255) : pw n < 256 := (pw_tab n h).2.1
theorem lg_pw {n : Nat} (h : n < 255) : lg (pw n) = n := (pw_tab n h).2.2
theorem lg_lt {v : Nat} (h : v < 256) (h0 : v ≠ 0) : lg v < 255 := by
  rcases lg_tab v h with h1 | h1
  · exact absurd h1 h0
  · exact h1.1
theorem pw_lg {v : Nat} (h : v < 256) (h0 : v ≠ 0) : pw (lg v) = v := by
  rcases lg_tab v h with h1 | h1
  · exact absurd h1 h0
  · exact h1.2
/-- the product by tables -/
def gmul (a b : Nat) : Nat := if a = 0 ∨ b = 0 then 0 else pw ((lg a + lg b) % 255)
/-- the inverse -/
def ginv (a : Nat) : Nat := pw ((255 - lg a) % 255)
/-- a power -/
def gpow (a n : Nat) : Nat := if n = 0 then 1 else if a = 0 then 0 else pw (lg a * (n % 255) % 255)

theorem gmul_zero_left (b : Nat) : gmul 0 b = 0 := by simp [gmul]
theorem gmul_zero_right (a : Nat) : gmul a 0 = 0 := by simp [gmul]
theorem gmul_comm (a b : Nat) : gmul a b = gmul b a := by
  unfold gmul
  rw [Nat.add_comm]
  by_cases h : a = 0 ∨ b = 0
  · rw [if_pos h, if_pos (Or.comm.1 h)]
  · rw [if_neg h, if_neg (fun h' => h (Or.comm.1 h'))]
theorem gmul_lt (a b : Nat) : gmul a b < 256 := by
  unfold gmul
  split
  · omega
  · exact pw_lt (Nat.mod_lt _ (by omega))
theorem gmul_pos {a b : Nat} (ha : a ≠ 0) (hb : b ≠ 0) : gmul a b ≠ 0 := by
  unfold gmul
  rw [if_neg (by omega)]
  have := pw_pos (Nat.mod_lt (lg a + lg b) (show 0 < 255 by omega))
  omega
theorem lg_gmul {a b : Nat} (ha : a ≠ 0) (hb : b ≠ 0) : lg (gmul a b) = (lg a + lg b) % 255 := by
  unfold gmul
  rw [if_neg (by omega)]
  exact lg_pw (Nat.mod_lt _ (by omega))
theorem gmul_assoc (a b c : Nat) : gmul a (gmul b c) = gmul (gmul a b) c := by
  by_cases ha : a = 0
  · subst ha; simp [gmul_zero_left]
  by_cases hb : b = 0
  · subst hb; simp [gmul_zero_left, gmul_zero_right]
  by_cases hc : c = 0
  · subst hc; simp [gmul_zero_right]
  have h1 := gmul_pos hb hc
  have h2 := gmul_pos ha hb
  rw [gmul, if_neg (by omega), lg_gmul hb hc, gmul, if_neg (by omega), lg_gmul ha hb]
  have e : ∀ x y z : Nat, (x + (y + z) % 255) % 255 = ((x + y) % 255 + z) % 255 := fun x y z => by omega
  rw [e]
theorem lg_one : lg 1 = 0 := by decide +kernel
theorem gmul_one {a : Nat} (h : a < 256) : gmul a 1 = a := by
  by_cases ha : a = 0
  · subst ha; exact gmul_zero_left _
  · have h1 := lg_lt h ha
    rw [gmul, if_neg (by omega), lg_one, Nat.add_zero, Nat.mod_eq_of_lt h1, pw_lg h ha]
theorem gmul_ginv {a : Nat} (h : a < 256) (ha : a ≠ 0) : gmul a (ginv a) = 1 := by
  have h1 := lg_lt h ha
  have h3 := Nat.mod_lt (255 - lg a) (show 0 < 255 by omega)
  have hp := pw_pos h3
  unfold ginv
  rw [gmul, if_neg (by omega), lg_pw h3]
  have e : ∀ x : Nat, x < 255 → (x + (255 - x) % 255) % 255 = 0 := fun x hx => by omega
  rw [e _ h1]
  exact pw_zero
theorem ginv_lt (a : Nat) : ginv a < 256 := pw_lt (Nat.mod_lt _ (by omega))
theorem ginv_pos (a : Nat) : ginv a ≠ 0 := by
  have := pw_pos (Nat.mod_lt (255 - lg a) (show 0 < 255 by omega))
  unfold ginv
  omega
end Go.Proofs.YtkbndlnmbbbohaaGreatDoor.M
namespace Go.Proofs.YtkbndlnmbbbohaaGreatDoor.M
set_option maxRecDepth 100000

theorem xt_tab : ∀ x, x < 256 → xt x < 256 := by decide +kernel
theorem xt_bits : ∀ x, x < 256 → xt x = (x <<< 1) ^^^ (if x.testBit 7 then 285 else 0) := by decide +kernel
theorem top_tab : ∀ a, a < 256 → (a = 0 ∨ ∃ i, i < 8 ∧ a ^^^ 2 ^ i < a) := by decide +kernel
theorem xor_lt {a b : Nat} (ha : a < 256) (hb : b < 256) : a ^^^ b < 256 := Nat.xor_lt_two_pow (n := 8) ha hb

theorem xor_four (a b c d : Nat) : (a ^^^ b) ^^^ (c ^^^ d) = (a ^^^ c) ^^^ (b ^^^ d) := by
  rw [Nat.xor_assoc, Nat.xor_assoc]
  congr 1
  rw [← Nat.xor_assoc, ← Nat.xor_assoc, Nat.xor_comm b c]
theorem xt_xor_tab (x : Nat) (hx : x < 256) (y : Nat) (hy : y < 256) : xt (x ^^^ y) = xt x ^^^ xt y := by
  rw [xt_bits _ (xor_lt hx hy), xt_bits _ hx, xt_bits _ hy, xor_four, Nat.shiftLeft_xor_distrib, Nat.testBit_xor]
  congr 1
  cases x.testBit 7 <;> cases y.testBit 7 <;> rfl

/-- one step of the product bit by bit -/
def hs (a p : Nat) (t : Bool) : Nat := if t then xt p ^^^ a else xt p
/-- the product behind j bits, from the top -/
def smulTo (a b : Nat) : Nat → Nat
  | 0 => 0
  | j + 1 => hs a (smulTo a b j) (b.testBit (7 - j))
def smul (a b : Nat) : Nat := smulTo a b 8

theorem hs_lt {a p : Nat} (ha : a < 256) (hp : p < 256) (t : Bool) : hs a p t < 256 := by
  unfold hs
  split
  · exact xor_lt (xt_tab _ hp) ha
  · exact xt_tab _ hp
theorem smulTo_lt {a : Nat} (ha : a < 256) (b j : Nat) : smulTo a b j < 256 := by
  induction j with
  | zero => show 0 < 256; omega
  | succ j ih => exact hs_lt ha ih _
theorem smul_lt {a : Nat} (ha : a < 256) (b : Nat) : smul a b < 256 := smulTo_lt ha b 8
theorem smulTo_xor {a c : Nat} (ha : a < 256) (hc : c < 256) (b j : Nat) : smulTo (a ^^^ c) b j = smulTo a b j ^^^ smulTo c b j := by
  induction j with
  | zero => exact (Nat.xor_self 0).symm
  | succ j ih =>
    show hs (a ^^^ c) (smulTo (a ^^^ c) b j) _ = hs a (smulTo a b j) _ ^^^ hs c (smulTo c b j) _
    rw [ih]
    unfold hs
    rw [xt_xor_tab _ (smulTo_lt ha b j) _ (smulTo_lt hc b j)]
    split
    · exact xor_four _ _ _ _
    · rfl
theorem smul_xor {a c : Nat} (ha : a < 256) (hc : c < 256) (b : Nat) : smul (a ^^^ c) b = smul a b ^^^ smul c b := smulTo_xor ha hc b 8
theorem smulTo_zero (b j : Nat) : smulTo 0 b j = 0 := by
  induction j with
  | zero => rfl
  | succ j ih =>
    show hs 0 (smulTo 0 b j) _ = 0
    rw [ih]
    unfold hs
    split <;> rfl
theorem smul_basis : ∀ i, i < 8 → ∀ b, b < 256 → smul (2 ^ i) (xt b) = xt (smul (2 ^ i) b) := by decide +kernel
theorem pow_lt {i : Nat} (h : i < 8) : 2 ^ i < 256 := Nat.pow_lt_pow_right (a := 2) (by omega) (m := i) (n := 8) h
theorem smul_xt {a : Nat} (ha : a < 256) {b : Nat} (hb : b < 256) : smul a (xt b) = xt (smul a b) := by
  induction a using Nat.strongRecOn with
  | _ a ih =>
    rcases top_tab a ha with rfl | ⟨i, hi, hlt⟩
    · show smulTo 0 _ 8 = xt (smulTo 0 _ 8)
      rw [smulTo_zero, smulTo_zero]; rfl
    · have hp := pow_lt hi
      have e : a = (a ^^^ 2 ^ i) ^^^ 2 ^ i := by rw [Nat.xor_assoc, Nat.xor_self, Nat.xor_zero]
      have hc : a ^^^ 2 ^ i < 256 := by omega
      have h1 := ih _ hlt hc
      generalize a ^^^ 2 ^ i = c at *
      rw [e, smul_xor hc hp, smul_xor hc hp, h1, smul_basis i hi b hb, xt_xor_tab _ (smul_lt hc b) _ (smul_lt hp b)]
theorem smul_one_tab : ∀ a, a < 256 → smul a 1 = a := by decide +kernel
theorem pw_lt' (n : Nat) : pw n < 256 := by
  induction n with
  | zero => rw [pw_zero]; omega
  | succ n ih => rw [pw_succ]; exact xt_tab _ ih
theorem smul_pw {a : Nat} (ha : a < 256) (n : Nat) : smul a (pw n) = iter n a := by
  induction n with
  | zero => rw [pw_zero]; exact smul_one_tab a ha
  | succ n ih => rw [pw_succ, smul_xt ha (pw_lt' n), ih, iter_succ]
theorem iter_pw (n m : Nat) : iter n (pw m) = pw (m + n) := by
  induction n with
  | zero => rfl
  | succ n ih => rw [iter_succ, ih, ← pw_succ]; rfl
theorem pw_add_255 (n : Nat) : pw (n + 255) = pw n := by
  have h := iter_pw n 255
  rw [pw_255] at h
  rw [Nat.add_comm, ← h]
  rfl
theorem pw_mod (n : Nat) : pw (n % 255) = pw n := by
  induction n using Nat.strongRecOn with
  | _ n ih =>
    by_cases h : n < 255
    · rw [Nat.mod_eq_of_lt h]
    · have h1 := ih (n - 255) (by omega)
      have h2 := pw_add_255 (n - 255)
      have e1 : n - 255 + 255 = n := by omega
      rw [e1] at h2
      have e2 : n % 255 = (n - 255) % 255 := by clear h1 h2 ih; omega
      rw [e2, h1, h2]
theorem smul_zero_right (a : Nat) : smul a 0 = 0 := by
  have h : ∀ j, smulTo a 0 j = 0 := fun j => by
    induction j with
    | zero => rfl
    | succ j ih =>
      show hs a (smulTo a 0 j) _ = 0
      rw [ih, Nat.zero_testBit]; rfl
  exact h 8
/-- The product by tables is the product bit by bit. -/
theorem gmul_eq {a b : Nat} (ha : a < 256) (hb : b < 256) : gmul a b = smul a b := by
  by_cases h0 : a = 0
  · subst h0; rw [gmul_zero_left]; exact (smulTo_zero b 8).symm
  by_cases h1 : b = 0
  · subst h1; rw [gmul_zero_right, smul_zero_right]
  have e : smul a b = pw (lg a + lg b) := by
    have h2 := smul_pw ha (lg b)
    rw [pw_lg hb h1] at h2
    have h3 := iter_pw (lg b) (lg a)
    rw [pw_lg ha h0] at h3
    rw [h2, h3]
  rw [e, ← pw_mod, gmul, if_neg (by omega)]
theorem gmul_xor_left {a b c : Nat} (ha : a < 256) (hb : b < 256) (hc : c < 256) : gmul (a ^^^ b) c = gmul a c ^^^ gmul b c := by
  rw [gmul_eq (xor_lt ha hb) hc, gmul_eq ha hc, gmul_eq hb hc, smul_xor ha hb]
theorem gmul_xor {a b c : Nat} (ha : a < 256) (hb : b < 256) (hc : c < 256) : gmul a (b ^^^ c) = gmul a b ^^^ gmul a c := by
  rw [gmul_comm, gmul_xor_left hb hc ha, gmul_comm b a, gmul_comm c a]
end Go.Proofs.YtkbndlnmbbbohaaGreatDoor.M
