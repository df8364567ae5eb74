/-
  What is read of a line: which transaction is ahead of a snapshot, which blocks were born behind it. No conditions beyond those that each theorem types.
-/
import Derived.Test.YtpoacgofbbfhcaaDeadMem
import Derived.Test.YtpoacgofbbfhcaaBlkOps
import Derived.Test.YtpoacgofbbfhcaaDrawSeq
import Derived.Deep.Cut
import Derived.IntWalk
namespace Go.Proofs.Ytpoacgofbbfhcaa
open Go Go.RowKit
set_option maxRecDepth 100000
set_option linter.unusedVariables false
namespace Dd
theorem rahead_at (w : World) (L : Ln) (A A' : Option Addr) (c c' n m i : Nat) (hn : n = L.snaps.length) (hi : i ≤ n) (hs : RdS w A L.snaps) (hnb : n ≤ big) :
    Calls Try.prog 27 #[.agg #[.int .i64 L.base, .slice A n c, .slice A' m c'], .int .i64 (i : Int)] w fun e w' => e = .returned (.int .i64 (aheadL L i)) ∧ Below w.heap.size w w' := by
  obtain ⟨W, hW⟩ : ∃ W, W = w.alloc (.cells #[.int .i64 L.base, .slice A n c, .slice A' m c'] 25) := ⟨_, rfl⟩
  have hb : Below w.heap.size w W := by rw [hW]; exact (Below.refl _ _).alloc (Nat.le_refl _) _
  have X : Blk W w.heap.size 25 #[.int .i64 L.base, .slice A n c, .slice A' m c'] := by rw [hW]; exact Blk.new _ _ _
  have hs2 := hs.below hb
  obtain ⟨ro, hro⟩ : ∃ ro, ro = w.heap.size := ⟨_, rfl⟩
  have HRO := Lib.hid hro
  rw [← hro] at X
  have d0 : W.cell? ⟨ro, 0, none⟩ = some (.int .i64 L.base) := X.cell 0
  have d1 : W.cell? ⟨ro, 1, none⟩ = some (.slice A n c) := X.cell 1
  have L1 := Lib.hid hb
  cases i with
  | zero =>
    clear hs hs2 hb X hi hn
    go_enter Try.func27, Try.ntmps27
    go_upto_region 1 with (fail)
    rw [← hW, ← HRO.out]
    clear hW hro
    go_wp2_with fail
    go_ret
    exact ⟨rfl, L1.out⟩
  | succ j =>
    have hj : j < L.snaps.length := by omega
    obtain ⟨s, hse⟩ : ∃ s, s = L.snaps[j] := ⟨_, rfl⟩
    have hsj : L.snaps[j]? = some s := by rw [hse]; exact List.getElem?_eq_getElem hj
    have hah : aheadL L (j + 1) = s.txg := by
      show (match L.snaps[j]? with | some s => s.txg | none => 0) = _
      rw [hsj]
    obtain ⟨g, o, A2, c2, hA, hgb, k0, k1, _⟩ := hs2 j s hsj
    rw [hah]
    obtain ⟨t, ht⟩ : ∃ t, t = s.txg := ⟨_, rfl⟩
    rw [← ht] at k0 ⊢
    subst hA
    have hjn : j < n := by omega
    unfold big at hnb
    have hwr : IntKind.i64.wrap (((j + 1 : Nat) : Int) - 1) = (j : Int) := by rw [IntWalk.i64_in _ (by omega)]; omega
    have hz : (((j + 1 : Nat) : Int) == 0) = false := by simp; omega
    have j1 : (0 : Int) ≤ (j : Int) := by omega
    have j2 : (j : Int) < (n : Int) := by omega
    clear hs hs2 hb X hi hn hse hsj hah hgb k1 ht hj
    go_enter Try.func27, Try.ntmps27
    go_upto_region 1 with (fail)
    rw [← hW, ← HRO.out]
    clear hW hro
    go_wp2_with fail
    go_ret
    exact ⟨rfl, L1.out⟩
set_option maxHeartbeats 800000 in
theorem ryoung_at (w : World) (D : List Pt) (A : Option Addr) (c : Nat) (t : Int) (hl : D.length ≤ big) (hrd : RdP w A D) :
    Calls Try.prog 28 #[.slice A D.length c, .int .i64 t] w fun e w' => e = .returned (.bool (youngL t D)) ∧ Below w.heap.size w w' := by
  obtain ⟨n, hn⟩ : ∃ n, n = D.length := ⟨_, rfl⟩
  have HN := Lib.hid hn
  have HRD := Lib.hid hrd
  obtain ⟨R, hR⟩ : ∃ R, R = youngL t D := ⟨_, rfl⟩
  have HR := Lib.hid hR
  have L0 : Hid (Below w.heap.size w w) := Lib.hid (Below.refl _ _)
  have Y0 : Hid (youngL t (D.take 0) = true) := Lib.hid rfl
  rw [← hn] at hl ⊢
  rw [← hR]
  unfold big at hl
  clear hn hrd hR
  go_enter Try.func28, Try.ntmps28
  go_wp2_with fail
  go_loopw [5] (fun y wr => ∃ i : Nat, i ≤ n ∧ y = .int .i64 (i : Int) ∧ Hid (youngL t (D.take i) = true) ∧ Hid (Below w.heap.size w wr)) (fun y _ => n - (intOf y).toNat)
  case atStart => exact ⟨0, by omega, rfl, Y0, L0⟩
  case round =>
    clear L0 Y0
    obtain ⟨i, hi, rfl, Y0, L0⟩ := hrel
    by_cases hlt : i < n
    · have i1 : (i : Int) < (n : Int) := by omega
      have hil : i < D.length := by have := HN.out; omega
      obtain ⟨p, hp⟩ : ∃ p, p = D[i] := ⟨_, rfl⟩
      have hpi : D[i]? = some p := by rw [hp]; exact List.getElem?_eq_getElem hil
      obtain ⟨g, o, hA, hgb, kk⟩ := (HRD.out.below L0.out) i p hpi
      have k2 := kk 2 (.int .i64 p.birth) rfl
      obtain ⟨x, hx⟩ : ∃ x, x = p.birth := ⟨_, rfl⟩
      rw [← hx] at k2
      subst hA
      by_cases hz : t < x
      · have HQ : Hid (R = false) := Lib.hid (by rw [HR.out]; exact youngL_no hpi (by rw [← hx]; exact hz))
        clear hpi hp hil kk hx hgb Y0
        go_wp2_with fail
        go_ret
        rw [HQ.out]
        exact ⟨rfl, L0.out⟩
      · have Y1 := Lib.hid (youngL_take Y0.out hpi (by rw [← hx]; omega))
        clear hpi hp hil kk hx hgb Y0
        go_wp2_with fail
        go_roundw
        case rel => exact ⟨i + 1, by omega, by go_num, Y1, L0⟩
        case measure => simp [intOf]; omega
    · have i1 : ¬ ((i : Int) < (n : Int)) := by omega
      have HQ : Hid (R = true) := Lib.hid (by
        have := Y0.out
        rw [List.take_of_length_le (by have := HN.out; omega)] at this
        rw [HR.out, this])
      clear hlt
      go_wp2_with fail
      go_ret
      rw [HQ.out]
      exact ⟨rfl, L0.out⟩
end Dd
end Go.Proofs.Ytpoacgofbbfhcaa
