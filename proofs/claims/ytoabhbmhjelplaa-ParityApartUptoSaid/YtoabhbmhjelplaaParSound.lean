/-
  'parity.sound' by a contract. Conditions: the bad ones are parities, each above the one ahead of it.
-/
import Derived.Test.YtoabhbmhjelplaaParMend0
namespace Go.Proofs.Ytoabhbmhjelplaa
open Go Go.RowKit
set_option maxRecDepth 100000
set_option linter.unusedVariables false

/-- the parities below i that aren't among the bad columns -/
def sndL (m : Nat) (b : Nat → Int) (k i : Nat) : List Nat := (List.range i).filter fun j => !isB m b (k + j)
theorem sndL_bad {m k i : Nat} {b : Nat → Int} (h : isB m b (k + i) = true) : sndL m b k (i + 1) = sndL m b k i := by
  unfold sndL
  rw [List.range_succ, List.filter_append]
  simp [h]
theorem sndL_good {m k i : Nat} {b : Nat → Int} (h : isB m b (k + i) = false) : sndL m b k (i + 1) = sndL m b k i ++ [i] := by
  unfold sndL
  rw [List.range_succ, List.filter_append]
  simp [h]
theorem sndL_le (m : Nat) (b : Nat → Int) (k i : Nat) : (sndL m b k i).length ≤ i := by
  unfold sndL
  exact Nat.le_trans (List.length_filter_le _ _) (by simp)
/-- the numbers as cells -/
def natL (l : List Nat) : List Value := l.map fun (j : Nat) => Value.int .i64 ((j : Nat) : Int)
theorem natL_snoc (l : List Nat) (i : Nat) : natL (l ++ [i]) = natL l ++ [.int .i64 (i : Int)] := by simp [natL]

set_option maxHeartbeats 1600000 in
theorem sound_any (k m c B : Nat) (A : Option Addr) (b : Nat → Int) (N : Int) (w : World) (hz : RdZ w B A m b) (hB : B ≤ w.heap.size) (hmc : m ≤ c) (hcm : c ≤ maxLen) (hri : Rise m b N) (hlo : ∀ i, i < m → (k : Int) ≤ b i) (hk : k ≤ 16) (hm : m ≤ 16) :
    Calls Try.prog 32 #[.slice A m c, .int .i64 (k : Int)] w fun e w' => ∃ v, e = .returned v ∧ w'.ownsRow w.heap.size 3 1 v (sndL m b k 3).length (natL (sndL m b k 3)) ∧ Below w.heap.size w w' := by
  have hmk : ∀ W : World, (Instr.makeSlice 23 (.int .i64 0) (.int .i64 3)).run Try.prog W = .ok (.slice (some ⟨W.heap.size, 0, none⟩) 0 3) (W.alloc (.cells #[.int .i64 0, .int .i64 0, .int .i64 0] 3)) := fun _ => by kernel_rfl
  have O0 : Hid ((w.alloc (.cells #[.int .i64 0, .int .i64 0, .int .i64 0] 3)).ownsRow w.heap.size 3 1 (.slice (some ⟨w.heap.size, 0, none⟩) 0 3) (sndL m b k 0).length (natL (sndL m b k 0))) :=
    Lib.hid ⟨rfl, .inr ⟨w.heap.size, 3, _, rfl, Nat.le_refl _, Blk.new w 3 _, Nat.zero_le _, by simp [maxLen], rfl, rfl⟩⟩
  have L0 : Hid (Below w.heap.size w (w.alloc (.cells #[.int .i64 0, .int .i64 0, .int .i64 0] 3))) := Lib.hid ((Below.refl _ _).alloc (Nat.le_refl _) _)
  have T0 : Hid (Left (w.alloc (.cells #[.int .i64 0, .int .i64 0, .int .i64 0] 3)) B (.slice A m c) m 0 m (k + 0) b) :=
    Lib.hid ⟨by omega, ⟨A, c, rfl, hmc, hcm, fun j hj => by
      show ∃ b_1 o, A = some ⟨b_1, o, none⟩ ∧ b_1 < B ∧ World.cell? _ ⟨b_1, o + j, none⟩ = some (.int .i64 (b (0 + j)))
      rw [Nat.zero_add]; exact hz.below L0.out hB j hj⟩, fun j hj => absurd hj (by omega), fun j _ hj => by have := hlo j hj; omega⟩
  have HRI := Lib.hid hri
  have HB := Lib.hid hB
  clear hz hri hlo hB
  go_enter Try.func32, Try.ntmps32
  go_wp2_with fail
  clear hmk
  generalize hwz : w.heap.size = z at *
  have HWZ := Lib.hid hwz
  clear hwz
  go_loopw [0, 5, 8] (fun y v x wr => ∃ j t q : Nat, x = .int .i64 j ∧ j ≤ 3 ∧ Hid (Left wr B y m t q (k + j) b) ∧ Hid (wr.ownsRow z 3 1 v (sndL m b k j).length (natL (sndL m b k j))) ∧ Hid (Below z w wr)) (fun _ _ x _ => 3 - (intOf x).toNat)
  case atStart => exact ⟨0, 0, m, rfl, by omega, T0, O0, L0⟩
  case round =>
    clear O0 L0 T0
    obtain ⟨j, t, q, rfl, hj, T1, O1, L1⟩ := hrel
    have s1 := L1.out.size
    rw [HWZ.out] at s1
    by_cases hlt : j < 3
    · have e1 : IntKind.i64.wrap ((k : Int) + (j : Int)) = ((k + j : Nat) : Int) := by rw [IntKind.wrap_i64]; omega
      obtain ⟨A', c', rfl, hqc, hcm', hz'⟩ := T1.out.row
      unfold maxLen at hcm'
      have hbl : B ≤ wr.heap.size := Nat.le_trans HB.out s1
      -- one more that is sound
      have O2 : Hid ((wr.alloc (.cells #[.int .i64 (j : Int)] 3)).ownsRow z 3 1 u5 (sndL m b k j).length (natL (sndL m b k j))) := Lib.hid (O1.out.alloc _)
      have HC : Hid ((wr.alloc (.cells #[.int .i64 (j : Int)] 3)).cell? ⟨wr.heap.size, 0, none⟩ = some (.int .i64 (j : Int))) := by
        show _ = _
        rw [(Blk.new wr _ _).cell]
        rfl
      have hzz : z ≤ (wr.alloc (.cells #[.int .i64 (j : Int)] 3)).heap.size := by simp; omega
      have HZ := Lib.hid hzz
      have hsl := sndL_le m b k j
      clear hzz
      by_cases hq : q = 0
      · subst hq
        have hnb := isB_false (T1.out.not_bad (.inl rfl) HRI.out)
        have HNB := Lib.hid (sndL_good hnb)
        have T2 := Lib.hid (T1.out.keep (.inl rfl) HRI.out)
        clear hz' hnb T1 O1
        go_wp2_with ((with_reducible refine wpList_pushZ rfl (.tmp 25) (.tmp 27) rfl rfl O2.out rfl HC.out (by omega) HZ.out ?_); intro v2 w2 ho2 hg2; refine of_hid ?_)
        refine Lib.hid ?_
        have L3 := Lib.hid (below_grown (L1.out.alloc (by omega) _) O2.out hg2 HZ.out)
        have O3 : Hid (w2.ownsRow z 3 1 v2 (sndL m b k (j + 1)).length (natL (sndL m b k (j + 1)))) := by rw [HNB.out, natL_snoc, List.length_append]; exact ho2
        have T3 := Lib.hid (T2.out.below (below_grown (show Below z wr _ from (Below.refl z wr).alloc (by omega) _) O2.out hg2 HZ.out) HB.out)
        clear ho2 hg2 O2 HC HZ L1 T2
        go_wp2_with fail
        go_roundw
        case rel => exact ⟨j + 1, t, 0, by go_num, by omega, T3, O3, L3⟩
        case measure => simp [intOf]; omega
      · obtain ⟨q, rfl⟩ : ∃ q', q = q' + 1 := ⟨q - 1, by omega⟩
        obtain ⟨bb, ob, rfl, hbb, hcb⟩ := hz' 0 (by omega)
        have hcb : wr.cell? ⟨bb, ob, none⟩ = some (.int .i64 (b t)) := hcb
        by_cases hb : b t = ((k + j : Nat) : Int)
        · have hz2 : RdZ wr B (some ⟨bb, ob + 1, none⟩) q (fun j => b (t + 1 + j)) := fun j hj => by
            obtain ⟨b', o', e, h1, h2⟩ := hz' (j + 1) (by omega)
            injection e with e
            injection e with e1 e2
            subst e1; subst e2
            refine ⟨bb, ob + 1, rfl, h1, ?_⟩
            rw [show ob + 1 + j = ob + (j + 1) by omega]
            show _ = some (Value.int .i64 (b (t + 1 + j)))
            rw [show t + 1 + j = t + (j + 1) by omega]
            exact h2
          have hz3 : q = 0 → RdZ wr B (some ⟨bb, ob, none⟩) q (fun j => b (t + 1 + j)) := fun e j hj => absurd hj (by omega)
          have hsum := T1.out.sum
          rw [hb] at hcb
          have HZ2 := Lib.hid hz2
          have HZ3 := Lib.hid hz3
          have HBT := Lib.hid hb
          have HL2 := Lib.hid (fun A c h1 h2 h3 => Lib.hid (T1.out.next (A := A) (c := c) HRI.out HBT.out h1 h2 h3))
          have O3 : Hid (wr.ownsRow z 3 1 u5 (sndL m b k (j + 1)).length (natL (sndL m b k (j + 1)))) := by rw [sndL_bad (isB_true (by omega) hb)]; exact O1
          clear hz' hz2 hz3 hbb hb T1 O1 O2 HC HZ hsum
          by_cases hc1 : c' = 1
          · subst hc1
            obtain rfl : q = 0 := by omega
            go_wp2_with fail
            go_roundw
            case rel => exact ⟨j + 1, t + 1, 0, by go_num, by omega, HL2.out _ _ (by omega) (by unfold maxLen; omega) (HZ3.out rfl), O3, L1⟩
            case measure => simp [intOf]; omega
          · have hc2 : 1 < c' := by omega
            go_wp2_with fail
            go_roundw
            case rel => exact ⟨j + 1, t + 1, q, by go_num, by omega, HL2.out _ _ (by omega) (by unfold maxLen; omega) HZ2.out, O3, L1⟩
            case measure => simp [intOf]; omega
        · have hne : (b t == (k : Int) + (j : Int)) = false := by rw [beq_eq_false_iff_ne]; omega
          have hnb := isB_false (T1.out.not_bad (.inr hb) HRI.out)
          have HNB := Lib.hid (sndL_good hnb)
          have T2 := Lib.hid (T1.out.keep (.inr hb) HRI.out)
          clear hz' hnb hbb hb T1 O1
          generalize b t = bt at *
          go_wp2_with ((with_reducible refine wpList_pushZ rfl (.tmp 25) (.tmp 27) rfl rfl O2.out rfl HC.out (by omega) HZ.out ?_); intro v2 w2 ho2 hg2; refine of_hid ?_)
          refine Lib.hid ?_
          have L3 := Lib.hid (below_grown (L1.out.alloc (by omega) _) O2.out hg2 HZ.out)
          have O3 : Hid (w2.ownsRow z 3 1 v2 (sndL m b k (j + 1)).length (natL (sndL m b k (j + 1)))) := by rw [HNB.out, natL_snoc, List.length_append]; exact ho2
          have T3 := Lib.hid (T2.out.below (below_grown (show Below z wr _ from (Below.refl z wr).alloc (by omega) _) O2.out hg2 HZ.out) HB.out)
          clear ho2 hg2 O2 HC HZ L1 T2
          go_wp2_with fail
          go_roundw
          case rel => exact ⟨j + 1, t, q + 1, by go_num, by omega, T3, O3, L3⟩
          case measure => simp [intOf]; omega
    · obtain rfl : j = 3 := by omega
      go_wp2_with fail
      go_ret
      exact ⟨_, rfl, by rw [HWZ.out]; exact O1.out, by rw [HWZ.out]; exact L1.out⟩
end Go.Proofs.Ytoabhbmhjelplaa
