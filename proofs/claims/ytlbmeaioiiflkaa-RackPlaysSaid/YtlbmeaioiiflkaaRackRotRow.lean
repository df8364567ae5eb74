/-
  'rack.turn' by a contract; a sector stored into the midst of the row of what waits. Conditions: the numbers fit.
-/
import Derived.Test.YtlbmeaioiiflkaaRackLose
import Derived.Test.YtlbmeaioiiflkaaDrawMore
import Derived.Test.YtlbmeaioiiflkaaDrawDeep
import Derived.Laws.BitsLemmas
namespace Go.Proofs.Ytlbmeaioiiflkaa
open Go.RowKit
set_option linter.unusedVariables false

set_option maxRecDepth 100000 in
theorem turn_any (w : World) (n : Nat) (hn : n ≤ 9223372036854775807) :
    Calls Try.prog 46 #[.int .i64 (n : Int)] w fun e w' => e = .returned (.int .u8 ((1 + n / 128 % 255 : Nat) : Int)) ∧ w' = w := by
  have h1 : (0 : Int) ≤ (n : Int) := by omega
  have h2 : (n : Int) ≤ 9223372036854775807 := by omega
  go_enter Try.func46, Try.ntmps46
  go_wp2
  go_ret
  have e : (1 + (n : Int) / 128 % 255) = ((1 + n / 128 % 255 : Nat) : Int) := by omega
  refine ⟨?_, rfl⟩
  show Ending.returned (.int .u8 (1 + (n : Int) / 128 % 255)) = _
  rw [e]
theorem xor_lt_256 {a b : Nat} (ha : a < 256) (hb : b < 256) : a ^^^ b < 256 := Nat.xor_lt_two_pow (n := 8) ha hb
theorem ofInt_i8 (a : Nat) (ha : a < 256) : (BitVec.ofInt 8 (a : Int)).toNat = a := by
  rw [BitVec.ofInt_natCast, BitVec.toNat_ofNat]; exact Nat.mod_eq_of_lt (by omega)
theorem u8_xor_nat (a b : Nat) (ha : a < 256) (hb : b < 256) : bits .xor .u8 (a : Int) (b : Int) = ((a ^^^ b : Nat) : Int) := by
  have hx := xor_lt_256 ha hb
  show IntKind.u8.wrap ((BitVec.ofInt 8 (a : Int) ^^^ BitVec.ofInt 8 (b : Int)).toNat : Int) = _
  rw [BitVec.toNat_xor, ofInt_i8 a ha, ofInt_i8 b hb, IntKind.wrap_u8]
  omega
theorem xor_u8 (w : World) (a b : Nat) (ha : a < 256) (hb : b < 256) : (binOp .xor 5 (.int .u8 (a : Int)) (.int .u8 (b : Int))).run Try.prog w = .ok (.int .u8 ((a ^^^ b : Nat) : Int)) w := by
  rw [← u8_xor_nat a b ha hb]
  kernel_rfl
theorem rem_i64 (w : World) (n k : Nat) (hn : n ≤ 9223372036854775807) (hk : 0 < k) (hk2 : k ≤ 9223372036854775807) : (binOp .rem 3 (.int .i64 (n : Int)) (.int .i64 (k : Int))).run Try.prog w = .ok (.int .i64 ((n % k : Nat) : Int)) w := by
  have h1 : ¬ ((k : Int) = 0) := by omega
  have h2 : ((n : Int).tmod (k : Int)) = ((n % k : Nat) : Int) := by
    rw [Int.tmod_eq_emod_of_nonneg (by omega)]
    omega
  rw [binOp_rem]
  unfold Op.intDiv
  simp [h2]
  omega
/-- 'xs[i]' of an array of one-cell elements -/
theorem index_array {P : Program} {t e : TypeId} {m : Nat} (ht : P.underlying t = some (.array m e)) (hi : (P.info? e).map (·.size) = some 1) (b o i : Nat) (hlt : i < m) (w : World) :
    (Instr.indexAt t (.pointer (some ⟨b, o, none⟩)) (.int .i64 (i : Int))).run P w = .ok (.pointer (some ⟨b, o + i, none⟩)) w := by
  cases hq : P.info? e with
  | none => simp [hq] at hi
  | some inf =>
    have hs : inf.size = 1 := by simpa [hq] using hi
    unfold Instr.indexAt asIntOf
    simp [run_underlying ht, Sem.run_bind, sizeOf, typeInfo, hq, hs, hlt, add_plain, Instr.sureAddr]

theorem index_array0 {P : Program} {t e : TypeId} {m : Nat} (ht : P.underlying t = some (.array m e)) (hi : (P.info? e).map (·.size) = some 1) (b i : Nat) (hlt : i < m) (w : World) :
    (Instr.indexAt t (.pointer (some ⟨b, 0, none⟩)) (.int .i64 (i : Int))).run P w = .ok (.pointer (some ⟨b, i, none⟩)) w := by
  have h := index_array ht hi b 0 i hlt w
  rw [Nat.zero_add] at h
  exact h
/-- 'xs[i]' of wider elements -/
theorem index_wide {P : Program} {t e : TypeId} {k : Nat} (ht : P.underlying t = some (.slice e)) (hi : (P.info? e).map (·.size) = some k) (b n c i : Nat) (hlt : i < n) (w : World) :
    (Instr.indexAt t (.slice (some ⟨b, 0, none⟩) n c) (.int .i64 (i : Int))).run P w = .ok (.pointer (some ⟨b, i * k, none⟩)) w := by
  cases hq : P.info? e with
  | none => simp [hq] at hi
  | some inf =>
    have hs : inf.size = k := by simpa [hq] using hi
    unfold Instr.indexAt asIntOf
    simp [run_underlying ht, Sem.run_bind, sizeOf, typeInfo, hq, hs, hlt, add_plain]
/-- many cells stored one behind the other -/
def setAll (cs : Array Value) (o : Nat) : List Value → Array Value
  | [] => cs
  | v :: r => setAll (cs.setIfInBounds o v) (o + 1) r
theorem setAll_size : ∀ (vs : List Value) (cs : Array Value) (o : Nat), (setAll cs o vs).size = cs.size
  | [], _, _ => rfl
  | v :: r, cs, o => by
    unfold setAll
    rw [setAll_size r, Array.size_setIfInBounds]
theorem setAll_get : ∀ (vs : List Value) (cs : Array Value) (o p : Nat), p < cs.size → (setAll cs o vs)[p]? = if o ≤ p ∧ p < o + vs.length then vs[p - o]? else cs[p]?
  | [], cs, o, p, h => by
    rw [if_neg (fun x => by have h1 := x.1; have h2 : p < o + 0 := x.2; omega)]
    rfl
  | v :: r, cs, o, p, h => by
    unfold setAll
    rw [setAll_get r _ _ _ (by rw [Array.size_setIfInBounds]; exact h)]
    by_cases h1 : o + 1 ≤ p ∧ p < o + 1 + r.length
    · rw [if_pos h1, if_pos (by simp; omega), show p - o = (p - (o + 1)) + 1 by omega, List.getElem?_cons_succ]
    · rw [if_neg h1]
      by_cases h2 : p = o
      · subst h2
        rw [if_pos ⟨Nat.le_refl _, by simp⟩, Nat.sub_self, Array.getElem?_setIfInBounds_self_of_lt h]
        rfl
      · rw [if_neg (by simp; omega), Array.getElem?_setIfInBounds_ne (by omega)]
theorem Blk.setCells {g : Nat} {t : TypeId} : ∀ (vs : List Value) (o : Nat) {w : World} {cs : Array Value}, Blk w g t cs → Blk (w.setCells g o vs) g t (setAll cs o vs)
  | [], _, _, _, h => h
  | v :: r, o, _, _, h => Blk.setCells r (o + 1) (h.set_ o v)
theorem grown_setCells (g : Nat) : ∀ (vs : List Value) (o : Nat) (w : World), w.grownBy (w.setCells g o vs) (some g)
  | [], _, w => World.grownBy.refl w _
  | v :: r, o, w => by
    have h1 := grown_set w g o v
    have h2 := grown_setCells g r (o + 1) (w.setCell ⟨g, o, none⟩ v)
    exact ⟨h2.os.trans h1.os, h2.tape.trans h1.tape, h2.output.trans h1.output, Nat.le_trans h1.size h2.size, fun i hi hne => (h2.block i (Nat.lt_of_lt_of_le hi h1.size) hne).trans (h1.block i hi hne)⟩
/-- the sector of element i is another one -/
def putW (W : Nat → Wt) (i : Nat) (X : Nat → Nat) (k : Nat) : Wt := if k = i then ⟨(W i).d, (W i).a, X⟩ else W k
theorem row_put {w : World} {B g n c i : Nat} {W : Nat → Wt} {X : Nat → Nat} (h : w.ownsRow B 59 130 (.slice (some ⟨g, 0, none⟩) n c) n (flat W n)) (hi : i < n) :
    (w.setCells g (i * 130 + 2) (secA X).toList).ownsRow B 59 130 (.slice (some ⟨g, 0, none⟩) n c) n (flat (putW W i X) n) ∧ w.there g (i * 130 + 2) 128 := by
  refine ⟨⟨flat_length _ _, ?_⟩, ?_⟩
  · rcases h.2 with ⟨e, _⟩ | ⟨g', cap, cur, e, k1, hg, k3, k4, hs, ht⟩
    · simp at e
    · simp only [Value.slice.injEq, Option.some.injEq, Addr.mk.injEq] at e
      obtain ⟨⟨e, _⟩, _, e2⟩ := e
      subst e
      have hcn : n * 130 ≤ cur.size := by rw [hs]; exact Nat.mul_le_mul_right _ k3
      refine .inr ⟨g, cap, _, by rw [e2], k1, Blk.setCells (secA X).toList (i * 130 + 2) (show Blk w g 59 cur from hg), k3, k4, by rw [setAll_size]; exact hs, ?_⟩
      apply List.ext_getElem?
      intro p
      by_cases hp : p < n * 130
      · rw [List.getElem?_take_of_lt hp, Array.getElem?_toList, setAll_get _ _ _ _ (by omega)]
        have hq : p / 130 < n := by omega
        have hpe : p = p / 130 * 130 + p % 130 := by omega
        have e1 : (flat (putW W i X) n)[p]? = (waitA (putW W i X (p / 130)))[p % 130]? := by
          have := flat_get (putW W i X) (j := p % 130) (by omega) hq
          rw [← hpe] at this
          exact this
        have e0 : cur[p]? = (waitA (W (p / 130)))[p % 130]? := by
          have h1 := flat_get W (j := p % 130) (by omega) hq
          rw [← hpe, ← ht, List.getElem?_take_of_lt hp, Array.getElem?_toList] at h1
          exact h1
        rw [e1, e0, Array.length_toList, secA_size]
        unfold putW
        by_cases hqi : p / 130 = i
        · rw [if_pos hqi, hqi]
          by_cases hr : 2 ≤ p % 130
          · rw [if_pos (by omega), Array.getElem?_toList]
            have h7 : (waitA ⟨(W i).d, (W i).a, X⟩)[2 + (p - (i * 130 + 2))]? = (secA X)[p - (i * 130 + 2)]? := waitA_tail ⟨(W i).d, (W i).a, X⟩ (p - (i * 130 + 2)) (by rw [secA_size]; omega)
            have h8 : 2 + (p - (i * 130 + 2)) = p % 130 := by omega
            rw [h8] at h7
            exact h7.symm
          · rw [if_neg (by omega)]
            have a1 := waitA_head (W i) (p % 130) (by simp; omega)
            have a2 := waitA_head ⟨(W i).d, (W i).a, X⟩ (p % 130) (by simp; omega)
            rw [Nat.zero_add] at a1 a2
            rw [a1, a2]
        · rw [if_neg hqi, if_neg (by omega)]
      · rw [List.getElem?_eq_none (by rw [List.length_take]; omega), List.getElem?_eq_none (by rw [flat_length]; omega)]
  · obtain ⟨cur, hb, hc⟩ := row_cells h
    intro j hj
    refine ⟨?_, hb.frozen _⟩
    rw [hb.cell, Nat.add_assoc, hc i (2 + j) hi (by omega), waitA_tail _ _ (by rw [secA_size]; omega)]
    unfold secA
    rw [rowArr_get (by omega)]
    rfl
end Go.Proofs.Ytlbmeaioiiflkaa
