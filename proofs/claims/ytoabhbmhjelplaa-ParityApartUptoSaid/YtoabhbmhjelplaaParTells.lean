/-
  'parity.Make' with rows that stand apart; what ParityTells reckons. Conditions: what is handed in reads as rows of bytes.
-/
import Derived.Test.YtoabhbmhjelplaaParCols
import Derived.Test.YtoabhbmhjelplaaParCheck
import Derived.Test.YtoabhbmhjelplaaDrawSeqM
import Derived.IntWalk
namespace Go.Proofs.Ytoabhbmhjelplaa
open Go Go.RowKit
set_option maxRecDepth 100000
set_option linter.unusedVariables false

section
variable {w w' : World} {base i n : Nat} {v : Value} {H : Nat → Hd} {R : Nat → Nat} {x : Nat → Nat → Nat}
theorem Cols.lower (h : Cols w base v i n H R x) {b : Nat} (hb : b ≤ base) : Cols w b v i n H R x :=
  ⟨h.own.base hb, h.hd, fun j hj => ⟨Nat.le_trans hb (h.row j hj).1, (h.row j hj).2⟩, h.apart⟩
theorem Cols.drew (h : Cols w base v i n H R x) : Cols w.drew base v i n H R x := ⟨h.own, h.hd, h.row, h.apart⟩
def updR (x : Nat → Nat → Nat) (j k u : Nat) (j' : Nat) : Nat → Nat := if j' = j then upd (x j) k u else x j'
/-- one byte of one row is stored -/
theorem Cols.set (h : Cols w base v i n H R x) {j k u : Nat} (hj : j < i) (hk : k < n) : Cols (w.setCell ⟨R j, k, none⟩ (.int .u8 ((u : Nat) : Int))) base v i n H R (updR x j k u) := by
  obtain ⟨h1, h2⟩ := h.row j hj
  refine ⟨h.own.keep fun g hg => Below.heap_setCell w _ _ g (fun e => h.own.neG h2 (by rw [hg, e])), h.hd, fun j' hj' => ?_, h.apart⟩
  obtain ⟨h3, h4⟩ := h.row j' hj'
  refine ⟨h3, ?_⟩
  unfold updR
  by_cases e : j' = j
  · rw [if_pos e, e]; exact h2.set hk
  · rw [if_neg e]
    refine h4.far (p := ⟨R j, k, none⟩) ?_ _
    show R j' ≠ R j
    by_cases e2 : j' < j
    · exact h.apart j' j e2 hj
    · exact (h.apart j j' (by omega) hj').symm
/-- the rows of another are appended -/
theorem Cols.join {w2 : World} {v' v2 : Value} {i2 : Nat} {H2 : Nat → Hd} {R2 : Nat → Nat} {y : Nat → Nat → Nat} (h : Cols w base v i n H R x) (h2 : Cols w base v2 i2 n H2 R2 y) (ho : OwnS w2 base v' (i + i2) (catS i H H2)) (hg : w.grownBy w2 v.ownBlock) (hne : ∀ j j2, j < i → j2 < i2 → R j ≠ R2 j2) :
    Cols w2 base v' (i + i2) n (catS i H H2) (fun j => if j < i then R j else R2 (j - i)) (fun j => if j < i then x j else y (j - i)) := by
  have q1 : ∀ j, j < i → (if j < i then R j else R2 (j - i)) = R j := fun j hj => if_pos hj
  have q2 : ∀ j, ¬ j < i → (if j < i then R j else R2 (j - i)) = R2 (j - i) := fun j hj => if_neg hj
  refine ⟨ho, fun j hj => ?_, fun j hj => ?_, fun j k hjk hk => ?_⟩
  · unfold catS
    by_cases e : j < i
    · rw [if_pos e, q1 j e]
      exact h.hd j e
    · rw [if_neg e, q2 j e]
      exact h2.hd (j - i) (by omega)
  · show base ≤ (if j < i then R j else R2 (j - i)) ∧ RowG w2 (if j < i then R j else R2 (j - i)) n (if j < i then x j else y (j - i))
    by_cases e : j < i
    · obtain ⟨h3, h4⟩ := h.row j e
      rw [q1 j e, if_pos e]
      exact ⟨h3, h4.heap (hg.block _ h4.lt (h.own.neG h4))⟩
    · obtain ⟨h3, h4⟩ := h2.row (j - i) (by omega)
      rw [q2 j e, if_neg e]
      exact ⟨h3, h4.heap (hg.block _ h4.lt (h.own.neG h4))⟩
  · show (if j < i then R j else R2 (j - i)) ≠ (if k < i then R k else R2 (k - i))
    by_cases e : k < i
    · rw [q1 j (by omega), q1 k e]
      exact h.apart j k hjk e
    · by_cases e2 : j < i
      · rw [q1 j e2, q2 k e]
        exact hne j (k - i) e2 (by omega)
      · rw [q2 j e2, q2 k e]
        exact h2.apart (j - i) (k - i) (by omega) (by omega)
end
set_option maxHeartbeats 800000 in
theorem make_cols (k cd B : Nat) (A : Option Addr) (ra : Nat → Option Addr) (rl rc : Nat → Nat) (x : Nat → Nat → Nat) (w : World) (hr : RdR w B A k ra rl rc x) (hB : B ≤ w.heap.size) (hk0 : 0 < k) (hk : k ≤ 13) (ha : Alike k rl) :
    Calls Try.prog 10 #[.slice A k cd] w fun e w' => ∃ v R, e = .returned (.tuple #[v, .int .i64 0]) ∧ Cols w' w.heap.size v 3 (rl 0) (fun i => (some ⟨R i, 0, none⟩, rl 0, rl 0)) R (fun i v => M.par k i x v) ∧ Below w.heap.size w w' := by
  have HA := Lib.hid ha
  have HR := Lib.hid hr
  have hz := build_field
  have t1 : ((k : Int) < 1) = False := by simp; omega
  have t2 : ((13 : Int) < (k : Int)) = False := by simp; omega
  clear hr ha
  go_enter Try.func10, Try.ntmps10
  go_wp2_with fail
  refine (alike_yes k cd B A ra rl rc x _ HR.out hk0 (by omega) HA.out).mono ?_
  rintro e w1 ⟨rfl, rfl⟩
  go_wp2_with fail
  have F1 : Fld (w.alloc (.cells (fcells 0 0 0) 61)) w.heap.size := .inl (Blk.new _ _ _)
  have B1 : Below w.heap.size w (w.alloc (.cells (fcells 0 0 0) 61)) := (Below.refl _ _).alloc (Nat.le_refl _) _
  refine (sums_any w.heap.size (rl 0) k cd B A ra rl rc x _ F1 (HR.out.below B1 hB) HA.out.2.2 hk0 (by omega) hB HA.out.2.1 (Nat.le_trans hB B1.size)).mono ?_
  rintro e w3 ⟨rfl, R, H3⟩
  have HS := Lib.hid H3
  have HB := Lib.hid (B1.trans (H3.only.below (Nat.le_refl _) B1.size))
  clear H3 F1 B1
  go_wp2_with fail
  go_ret2
  refine ⟨_, R, rfl, ?_, HB.out⟩
  have s1 : (w.alloc (.cells (fcells 0 0 0) 61)).heap.size = w.heap.size + 1 := by simp
  have hh := HS.out.head
  rw [s1] at hh
  refine ⟨.inr ⟨w.heap.size + 1, 3, _, (0, 0), rfl, by omega, hh, .inl (Nat.le_refl _), Nat.le_refl _, by simp [maxLen], by simp [hdP], fun j hj => ?_⟩, fun j hj => ⟨rl 0, rfl, Nat.le_refl _, ?_⟩, fun j hj => ?_, HS.out.apart⟩
  · rw [hdP_get hj, if_pos hj]; rfl
  · have := HA.out.2.1; unfold maxLen; omega
  · obtain ⟨h1, h2⟩ := HS.out.row j hj
    rw [s1] at h1
    exact ⟨by omega, h2⟩
/-- one byte of a data column has e added: parity 0 has it too -/
theorem par_turn (k : Nat) (x : Nat → Nat → Nat) (i v e : Nat) (hi : i < k) (he : e < 256) (hx : ∀ j, j < k → x j v < 256) : M.par k 0 (updR x i v (x i v ^^^ e)) v = M.par k 0 x v ^^^ e := by
  have h1 : M.par k 0 (updR x i v (x i v ^^^ e)) v = M.xsum k (fun j => M.gmul (M.pw (j * 0)) (x j v) ^^^ (if j = i then e else 0)) := by
    unfold M.par
    refine M.xsum_congr fun j hj => ?_
    unfold updR
    by_cases q : j = i
    · rw [if_pos q, if_pos q, q]
      unfold upd
      rw [if_pos rfl, Nat.mul_zero, M.pw_zero, M.gmul_comm, M.gmul_one (M.xor_lt (hx i hi) he), M.gmul_comm, M.gmul_one (hx i hi)]
    · rw [if_neg q, if_neg q, Nat.xor_zero]
  rw [h1, M.xsum_xor, M.xsum_one k _ i hi (fun j _ hj => if_neg hj), if_pos rfl]
  rfl
theorem xor_same {a x : Nat} (h : a ^^^ x = a) : x = 0 := by
  have h2 := congrArg (fun y => a ^^^ y) h
  simpa [← Nat.xor_assoc] using h2
/-- the columns with their parities -/
def withP (k : Nat) (x : Nat → Nat → Nat) (j : Nat) : Nat → Nat := if j < k then x j else M.par k (j - k) x
theorem tells_same (k n i v : Nat) (x : Nat → Nat → Nat) : ∀ j, j < 3 → Tells k n (updR (withP k x) i v (withP k x i v ^^^ 0)) j := by
  have e : updR (withP k x) i v (withP k x i v ^^^ 0) = withP k x := by
    funext j u
    unfold updR
    by_cases q : j = i
    · rw [if_pos q, q, Nat.xor_zero]
      unfold upd
      by_cases q2 : u = v
      · rw [if_pos q2, q2]
      · rw [if_neg q2]
    · rw [if_neg q]
  rw [e]
  intro j hj u hu
  have e2 : withP k x (k + j) u = M.par k j x u := by unfold withP; rw [if_neg (by omega), show k + j - k = j by omega]
  rw [e2]
  unfold M.par
  exact M.xsum_congr fun l hl => by unfold withP; rw [if_pos hl]
theorem par_withP (k j : Nat) (x : Nat → Nat → Nat) (v : Nat) : M.par k j (withP k x) v = M.par k j x v := by
  unfold M.par
  exact M.xsum_congr fun l hl => by unfold withP; rw [if_pos hl]
theorem tells_not (k n i v e : Nat) (x : Nat → Nat → Nat) (hi : i < k + 3) (hv : v < n) (he : e < 256) (h0 : e ≠ 0) (hx : ∀ j, j < k → ∀ v, v < n → x j v < 256) : ¬ ∀ j, j < 3 → Tells k n (updR (withP k x) i v (withP k x i v ^^^ e)) j := by
  intro h
  by_cases q : i < k
  · have h1 := h 0 (by omega) v hv
    rw [par_turn k (withP k x) i v e q he (fun j hj => by unfold withP; rw [if_pos hj]; exact hx j hj v hv), par_withP] at h1
    have e2 : updR (withP k x) i v (withP k x i v ^^^ e) (k + 0) v = M.par k 0 x v := by
      unfold updR
      rw [if_neg (by omega)]
      unfold withP
      rw [if_neg (by omega), show k + 0 - k = 0 by omega]
    rw [e2] at h1
    exact h0 (xor_same h1)
  · have h1 := h (i - k) (by omega) v hv
    have e1 : M.par k (i - k) (updR (withP k x) i v (withP k x i v ^^^ e)) v = M.par k (i - k) x v := by
      rw [← par_withP k (i - k) x v]
      unfold M.par
      exact M.xsum_congr fun l hl => by unfold updR; rw [if_neg (by omega)]
    have e2 : updR (withP k x) i v (withP k x i v ^^^ e) (k + (i - k)) v = M.par k (i - k) x v ^^^ e := by
      rw [show k + (i - k) = i by omega]
      unfold updR
      rw [if_pos rfl]
      unfold upd
      rw [if_pos rfl]
      unfold withP
      rw [if_neg q]
    rw [e1, e2] at h1
    exact h0 (xor_same h1.symm)
end Go.Proofs.Ytoabhbmhjelplaa
