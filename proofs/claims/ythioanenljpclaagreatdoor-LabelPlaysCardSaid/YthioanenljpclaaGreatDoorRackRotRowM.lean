/-
  A region that draws its order: what the last operation waits for by others' waiting may be taken first as well. Conditions: the closed facts that each theorem asks of the region.
-/
import Derived.Test.YthioanenljpclaaGreatDoorDrawSeqM
import Derived.Test.YthioanenljpclaaGreatDoorRackLoseM
import Derived.Laws.BitsLemmas
namespace Go.Proofs.YthioanenljpclaaGreatDoor
set_option maxRecDepth 100000
open Go Go.RowKit

section
variable {P : Program} {md : Region.Mode} {ops : Array Oper} {Q : Exit → Act → World → Prop} {S : World → Prop} {z : Nat}
/-- z waits for i, or for what does -/
inductive Deep (md : Region.Mode) (ops : Array Oper) : Nat → Nat → Prop
  | one {z i : Nat} : Region.waitsFor md ops z i = true → Deep md ops z i
  | step {z k i : Nat} : Region.waitsFor md ops z k = true → Deep md ops k i → Deep md ops z i
def deepB (md : Region.Mode) (ops : Array Oper) : Nat → Nat → Nat → Bool
  | 0, _, _ => false
  | f + 1, z, i => Region.waitsFor md ops z i || (List.range ops.size).any fun k => Region.waitsFor md ops z k && deepB md ops f k i
theorem deepB_spec : ∀ {f z i : Nat}, deepB md ops f z i = true → Deep md ops z i
  | 0, _, _, h => by cases h
  | f + 1, z, i, h => by
    unfold deepB at h
    rw [Bool.or_eq_true] at h
    rcases h with h | h
    · exact .one h
    · obtain ⟨k, _, hk⟩ := List.any_eq_true.1 h
      rw [Bool.and_eq_true] at hk
      exact .step hk.1 (deepB_spec hk.2)
/-- what stands before what is listed is listed -/
def Closed (md : Region.Mode) (ops : Array Oper) (listed : Array Bool) : Prop :=
  ∀ j oj, ops[j]? = some oj → listed.getD j false = true → ∀ e ∈ oj.after, Region.binds md e = true → listed.getD e.on false = true
def closedB (md : Region.Mode) (ops : Array Oper) (listed : Array Bool) : Bool :=
  (List.range ops.size).all fun j => !listed.getD j false || match ops[j]? with
    | some oj => oj.after.all fun e => !Region.binds md e || listed.getD e.on false
    | none => true
theorem closedB_spec {listed : Array Bool} (h : closedB md ops listed = true) : Closed md ops listed := by
  intro j oj hj hl e he hb
  have h1 := List.all_eq_true.1 h j (List.mem_range.2 (Array.getElem?_eq_some_iff.1 hj).1)
  simp only [hl, hj, Bool.not_true, Bool.false_or] at h1
  have h2 := Array.all_eq_true_iff_forall_mem.1 h1 e he
  simpa [hb] using h2
theorem Closed.set {listed : Array Bool} {i : Nat} (h : Closed md ops listed) (hi : i ∈ Region.ready md ops listed) : Closed md ops (listed.setIfInBounds i true) := by
  obtain ⟨_, oi, hoi, hall⟩ := mem_ready.1 hi
  intro j oj hj hl e he hb
  by_cases hij : i = j
  · subst hij
    have : oj = oi := Option.some.inj (hj.symm.trans hoi)
    subst this
    exact getD_set_true (hall e he hb)
  · rw [getD_set_ne false hij] at hl
    exact getD_set_true (h j oj hj hl e he hb)
theorem Deep.unlisted {listed : Array Bool} (hc : Closed md ops listed) {z i : Nat} (h : Deep md ops z i) (hi : listed.getD i false = false) : listed.getD z false = false := by
  induction h with
  | one h =>
    obtain ⟨o, ho, e, he, hb, hon⟩ := Region.waitsFor_spec h
    cases hz : listed.getD _ false with
    | false => rfl
    | true =>
      have := hc _ o ho hz e he hb
      rw [hon, hi] at this
      cases this
  | step h _ ih =>
    obtain ⟨o, ho, e, he, hb, hon⟩ := Region.waitsFor_spec h
    have hk := ih hi
    cases hz : listed.getD _ false with
    | false => rfl
    | true =>
      have := hc _ o ho hz e he hb
      rw [hon, hk] at this
      cases this
theorem Deep.not_ready {listed : Array Bool} (hc : Closed md ops listed) {z i : Nat} (h : Deep md ops z i) (hi : listed.getD i false = false) : z ∉ Region.ready md ops listed := by
  intro hr
  obtain ⟨_, o, ho, hall⟩ := mem_ready.1 hr
  cases h with
  | one h =>
    obtain ⟨o', ho', e, he, hb, hon⟩ := Region.waitsFor_spec h
    rw [ho] at ho'
    injection ho' with ho'
    subst ho'
    have := hall e he hb
    rw [hon, hi] at this
    cases this
  | step h h2 =>
    obtain ⟨o', ho', e, he, hb, hon⟩ := Region.waitsFor_spec h
    rw [ho] at ho'
    injection ho' with ho'
    subst ho'
    have := hall e he hb
    rw [hon, h2.unlisted hc hi] at this
    cases this

theorem AnyZ.firstC {i : Nat} {oi : Oper} {v : Value} (hi : ops[i]? = some oi) (hsel : ∀ (j : Nat) (o : Oper) cs b, ops[j]? = some o → o.op ≠ .select cs b)
    (hQ : ∀ c a w, Q (.panic c) (a.put oi.dst v) w → Q (.panic c) a w) (hz : Deep md ops z i) :
    ∀ (n : Nat) (listed : Array Bool) (a : Act) (w : World), Closed md ops listed →
      (∀ j oj, ops[j]? = some oj → j ≠ i → listed.getD j true = false → (∀ e ∈ oj.after, Region.binds md e = true → e.on ≠ i) → oi.apart ops oj = true) →
      i ∈ Region.ready md ops listed → YieldsIf P ops S oi v a → S w →
      AnyZ P md ops Q S z n (listed.setIfInBounds i true) (a.put oi.dst v) w → AnyZ P md ops Q S z (n + 1) listed a w := by
  intro n
  induction n with
  | zero =>
    intro listed a w _ _ hr hy hS H
    refine ⟨fun h => (by rw [h] at hr; cases hr), fun j hj => ?_⟩
    by_cases hji : j = i
    · subst hji
      exact hy.wpOp hi hS ⟨fun _ => hS, H⟩
    · have h0 := ready_mono hj hji
      rw [H.1] at h0
      cases h0
  | succ n ih =>
    intro listed a w hcl hfree hr hy hS H
    refine ⟨fun h => (by rw [h] at hr; cases hr), fun j hj => ?_⟩
    by_cases hji : j = i
    · subst hji
      exact hy.wpOp hi hS ⟨fun _ => hS, H⟩
    · have h1 := H.2 j (ready_mono hj hji)
      have hun := (mem_ready.1 hr).1
      obtain ⟨hjun, oj, hoj, hall⟩ := mem_ready.1 hj
      have hnot : ∀ e ∈ oj.after, Region.binds md e = true → e.on ≠ i := fun e he hb heq => by
        have h4 := hall e he hb
        rw [heq, getD_both hun] at h4
        cases h4
      have hjz : j ≠ z := by
        rintro rfl
        exact hz.not_ready hcl (getD_both hun) hj
      have h2 := wpOp_putIf hoj (hfree j oj hoj hji hjun hnot) (fun cs b => hsel i oi cs b hi) (fun cs b => hsel j oj cs b hoj) hQ hy h1
      refine wpOp_mono (fun a' w' h3 => ⟨fun _ => h3.2.1 hjz, ih (listed.setIfInBounds j true) a' w' (hcl.set hj) (fun k ok hk hki hunk hno => ?_) (ready_mono hr (Ne.symm hji)) h3.1 (h3.2.1 hjz) ?_⟩) h2
      · refine hfree k ok hk hki ?_ hno
        by_cases hjk : j = k
        · subst hjk
          exact hjun
        · rw [getD_set_ne true hjk] at hunk
          exact hunk
      · rw [Array.setIfInBounds_comm _ _ hji]
        exact h3.2.2
def takeDB (md : Region.Mode) (ops : Array Oper) (z : Nat) (listed : Array Bool) (i : Nat) : Bool :=
  Region.noSelect ops && Region.free md ops listed i && (Region.ready md ops listed).contains i && closedB md ops listed && deepB md ops 3 z i
/-- as takeG, where the last operation waits by others' waiting -/
theorem takeD {n : Nat} {listed : Array Bool} {a : Act} {w : World} (i : Nat) (op : Op) (d : Option Tmp) (g : Option (Nat × Bool)) (v : Value) (ho : isOp ops i = some (op, d, g)) (hw : wantG g (yielded ops a.tmps) = true) (hB : takeDB md ops z listed i = true)
    (hQ : ∀ c a w, Q (.panic c) (a.put d v) w → Q (.panic c) a w) (hy : ∀ (o : Oper) w, o.op = op → S w → (execOp a.eval o).run P w = .ok (.value v) w) (hS : S w)
    (h : AnyZ P md ops Q S z n (listed.setIfInBounds i true) (a.put d v) w) : AnyZ P md ops Q S z (n + 1) listed a w := by
  obtain ⟨o, h1, h2, rfl, h4⟩ := isOpG_spec ho
  simp only [takeDB, Bool.and_eq_true] at hB
  exact AnyZ.firstC h1 (Region.noSelect_spec hB.1.1.1.1) hQ (deepB_spec hB.2) n listed a w (closedB_spec hB.1.2) (Region.free_spec h1 hB.1.1.1.2) (by simpa using hB.1.1.2) (.inl ⟨want_of h4 hw, fun w hw => hy o w h2 hw⟩) hS h
end
end Go.Proofs.YthioanenljpclaaGreatDoor
namespace Go.Proofs.YthioanenljpclaaGreatDoor
set_option maxRecDepth 100000
open Go.RowKit
set_option linter.unusedVariables false

set_option maxRecDepth 100000 in
theorem turn_any (w : World) (n : Nat) (hn : n ≤ 9223372036854775807) :
    Calls Tryz.prog 46 #[.int .i64 (n : Int)] w fun e w' => e = .returned (.int .u8 ((1 + n / 128 % 255 : Nat) : Int)) ∧ w' = w := by
  have h1 : (0 : Int) ≤ (n : Int) := by omega
  have h2 : (n : Int) ≤ 9223372036854775807 := by omega
  go_enter Tryz.func46, Tryz.ntmps46
  go_wp2
  go_ret
  have e : (1 + (n : Int) / 128 % 255) = ((1 + n / 128 % 255 : Nat) : Int) := by omega
  refine ⟨?_, rfl⟩
  show Ending.returned (.int .u8 (1 + (n : Int) / 128 % 255)) = _
  rw [e]
theorem xor_lt_256 {a b : Nat} (ha : a < 256) (hb : b < 256) : a ^^^ b < 256 := Nat.xor_lt_two_pow (n := 8) ha hb
theorem ofInt_i8R (a : Nat) (ha : a < 256) : (BitVec.ofInt 8 (a : Int)).toNat = a := by
  rw [BitVec.ofInt_natCast, BitVec.toNat_ofNat]; exact Nat.mod_eq_of_lt (by omega)
theorem u8_xor_natR (a b : Nat) (ha : a < 256) (hb : b < 256) : bits .xor .u8 (a : Int) (b : Int) = ((a ^^^ b : Nat) : Int) := by
  have hx := xor_lt_256 ha hb
  show IntKind.u8.wrap ((BitVec.ofInt 8 (a : Int) ^^^ BitVec.ofInt 8 (b : Int)).toNat : Int) = _
  rw [BitVec.toNat_xor, ofInt_i8R a ha, ofInt_i8R b hb, IntKind.wrap_u8]
  omega
theorem xor_u8 (w : World) (a b : Nat) (ha : a < 256) (hb : b < 256) : (binOp .xor 5 (.int .u8 (a : Int)) (.int .u8 (b : Int))).run Tryz.prog w = .ok (.int .u8 ((a ^^^ b : Nat) : Int)) w := by
  rw [← u8_xor_natR a b ha hb]
  kernel_rfl
theorem rem_i64 (w : World) (n k : Nat) (hn : n ≤ 9223372036854775807) (hk : 0 < k) (hk2 : k ≤ 9223372036854775807) : (binOp .rem 3 (.int .i64 (n : Int)) (.int .i64 (k : Int))).run Tryz.prog w = .ok (.int .i64 ((n % k : Nat) : Int)) w := by
  have h1 : ¬ ((k : Int) = 0) := by omega
  have h2 : ((n : Int).tmod (k : Int)) = ((n % k : Nat) : Int) := by
    rw [Int.tmod_eq_emod_of_nonneg (by omega)]
    omega
  rw [binOp_rem]
  unfold Op.intDiv
  simp [h2]
  omega
/-- 'xs[i]' of an array of one-cell elements -/
theorem index_array {P : Program} {t e : TypeId} {m : Nat} (ht : P.underlying t = some (.array m e)) (hi : (P.info? e).map (·.size) = some 1) (b o i : Nat) (hlt : i < m) (w : World) :
    (Instr.indexAt t (.pointer (some ⟨b, o, none⟩)) (.int .i64 (i : Int))).run P w = .ok (.pointer (some ⟨b, o + i, none⟩)) w := by
  cases hq : P.info? e with
  | none => simp [hq] at hi
  | some inf =>
    have hs : inf.size = 1 := by simpa [hq] using hi
    unfold Instr.indexAt asIntOf
    simp [run_underlying ht, Sem.run_bind, sizeOf, typeInfo, hq, hs, hlt, add_plain, Instr.sureAddr]

theorem index_array0 {P : Program} {t e : TypeId} {m : Nat} (ht : P.underlying t = some (.array m e)) (hi : (P.info? e).map (·.size) = some 1) (b i : Nat) (hlt : i < m) (w : World) :
    (Instr.indexAt t (.pointer (some ⟨b, 0, none⟩)) (.int .i64 (i : Int))).run P w = .ok (.pointer (some ⟨b, i, none⟩)) w := by
  have h := index_array ht hi b 0 i hlt w
  rw [Nat.zero_add] at h
  exact h
/-- 'xs[i]' of wider elements -/
theorem index_wide {P : Program} {t e : TypeId} {k : Nat} (ht : P.underlying t = some (.slice e)) (hi : (P.info? e).map (·.size) = some k) (b n c i : Nat) (hlt : i < n) (w : World) :
    (Instr.indexAt t (.slice (some ⟨b, 0, none⟩) n c) (.int .i64 (i : Int))).run P w = .ok (.pointer (some ⟨b, i * k, none⟩)) w := by
  cases hq : P.info? e with
  | none => simp [hq] at hi
  | some inf =>
    have hs : inf.size = k := by simpa [hq] using hi
    unfold Instr.indexAt asIntOf
    simp [run_underlying ht, Sem.run_bind, sizeOf, typeInfo, hq, hs, hlt, add_plain]
/-- many cells stored one behind the other -/
def setAll (cs : Array Value) (o : Nat) : List Value → Array Value
  | [] => cs
  | v :: r => setAll (cs.setIfInBounds o v) (o + 1) r
theorem setAll_size : ∀ (vs : List Value) (cs : Array Value) (o : Nat), (setAll cs o vs).size = cs.size
  | [], _, _ => rfl
  | v :: r, cs, o => by
    unfold setAll
    rw [setAll_size r, Array.size_setIfInBounds]
theorem setAll_get : ∀ (vs : List Value) (cs : Array Value) (o p : Nat), p < cs.size → (setAll cs o vs)[p]? = if o ≤ p ∧ p < o + vs.length then vs[p - o]? else cs[p]?
  | [], cs, o, p, h => by
    rw [if_neg (fun x => by have h1 := x.1; have h2 : p < o + 0 := x.2; omega)]
    rfl
  | v :: r, cs, o, p, h => by
    unfold setAll
    rw [setAll_get r _ _ _ (by rw [Array.size_setIfInBounds]; exact h)]
    by_cases h1 : o + 1 ≤ p ∧ p < o + 1 + r.length
    · rw [if_pos h1, if_pos (by simp; omega), show p - o = (p - (o + 1)) + 1 by omega, List.getElem?_cons_succ]
    · rw [if_neg h1]
      by_cases h2 : p = o
      · subst h2
        rw [if_pos ⟨Nat.le_refl _, by simp⟩, Nat.sub_self, Array.getElem?_setIfInBounds_self_of_lt h]
        rfl
      · rw [if_neg (by simp; omega), Array.getElem?_setIfInBounds_ne (by omega)]
theorem Blk.setCells {g : Nat} {t : TypeId} : ∀ (vs : List Value) (o : Nat) {w : World} {cs : Array Value}, Blk w g t cs → Blk (w.setCells g o vs) g t (setAll cs o vs)
  | [], _, _, _, h => h
  | v :: r, o, _, _, h => Blk.setCells r (o + 1) (h.set_ o v)
theorem grown_setCells (g : Nat) : ∀ (vs : List Value) (o : Nat) (w : World), w.grownBy (w.setCells g o vs) (some g)
  | [], _, w => World.grownBy.refl w _
  | v :: r, o, w => by
    have h1 := grown_set w g o v
    have h2 := grown_setCells g r (o + 1) (w.setCell ⟨g, o, none⟩ v)
    exact ⟨h2.os.trans h1.os, h2.tape.trans h1.tape, h2.output.trans h1.output, Nat.le_trans h1.size h2.size, fun i hi hne => (h2.block i (Nat.lt_of_lt_of_le hi h1.size) hne).trans (h1.block i hi hne)⟩
/-- the sector of element i is another one -/
def putW (W : Nat → Wt) (i : Nat) (X : Nat → Nat) (k : Nat) : Wt := if k = i then ⟨(W i).d, (W i).a, X⟩ else W k
theorem row_put {w : World} {B g n c i : Nat} {W : Nat → Wt} {X : Nat → Nat} (h : w.ownsRow B 89 130 (.slice (some ⟨g, 0, none⟩) n c) n (flat W n)) (hi : i < n) :
    (w.setCells g (i * 130 + 2) (secA X).toList).ownsRow B 89 130 (.slice (some ⟨g, 0, none⟩) n c) n (flat (putW W i X) n) ∧ w.there g (i * 130 + 2) 128 := by
  refine ⟨⟨flat_length _ _, ?_⟩, ?_⟩
  · rcases h.2 with ⟨e, _⟩ | ⟨g', cap, cur, e, k1, hg, k3, k4, hs, ht⟩
    · simp at e
    · simp only [Value.slice.injEq, Option.some.injEq, Addr.mk.injEq] at e
      obtain ⟨⟨e, _⟩, _, e2⟩ := e
      subst e
      have hcn : n * 130 ≤ cur.size := by rw [hs]; exact Nat.mul_le_mul_right _ k3
      refine .inr ⟨g, cap, _, by rw [e2], k1, Blk.setCells (secA X).toList (i * 130 + 2) (show Blk w g 89 cur from hg), k3, k4, by rw [setAll_size]; exact hs, ?_⟩
      apply List.ext_getElem?
      intro p
      by_cases hp : p < n * 130
      · rw [List.getElem?_take_of_lt hp, Array.getElem?_toList, setAll_get _ _ _ _ (by omega)]
        have hq : p / 130 < n := by omega
        have hpe : p = p / 130 * 130 + p % 130 := by omega
        have e1 : (flat (putW W i X) n)[p]? = (waitA (putW W i X (p / 130)))[p % 130]? := by
          have := flat_get (putW W i X) (j := p % 130) (by omega) hq
          rw [← hpe] at this
          exact this
        have e0 : cur[p]? = (waitA (W (p / 130)))[p % 130]? := by
          have h1 := flat_get W (j := p % 130) (by omega) hq
          rw [← hpe, ← ht, List.getElem?_take_of_lt hp, Array.getElem?_toList] at h1
          exact h1
        rw [e1, e0, Array.length_toList, secA_size]
        unfold putW
        by_cases hqi : p / 130 = i
        · rw [if_pos hqi, hqi]
          by_cases hr : 2 ≤ p % 130
          · rw [if_pos (by omega), Array.getElem?_toList]
            have h7 : (waitA ⟨(W i).d, (W i).a, X⟩)[2 + (p - (i * 130 + 2))]? = (secA X)[p - (i * 130 + 2)]? := waitA_tail ⟨(W i).d, (W i).a, X⟩ (p - (i * 130 + 2)) (by rw [secA_size]; omega)
            have h8 : 2 + (p - (i * 130 + 2)) = p % 130 := by omega
            rw [h8] at h7
            exact h7.symm
          · rw [if_neg (by omega)]
            have a1 := waitA_head (W i) (p % 130) (by simp; omega)
            have a2 := waitA_head ⟨(W i).d, (W i).a, X⟩ (p % 130) (by simp; omega)
            rw [Nat.zero_add] at a1 a2
            rw [a1, a2]
        · rw [if_neg hqi, if_neg (by omega)]
      · rw [List.getElem?_eq_none (by rw [List.length_take]; omega), List.getElem?_eq_none (by rw [flat_length]; omega)]
  · obtain ⟨cur, hb, hc⟩ := row_cells h
    intro j hj
    refine ⟨?_, hb.frozen _⟩
    rw [hb.cell, Nat.add_assoc, hc i (2 + j) hi (by omega), waitA_tail _ _ (by rw [secA_size]; omega)]
    unfold secA
    rw [rowArr_get (by omega)]
    rfl
end Go.Proofs.YthioanenljpclaaGreatDoor
