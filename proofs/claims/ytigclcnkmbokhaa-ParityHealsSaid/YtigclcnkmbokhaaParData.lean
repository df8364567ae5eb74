/-
  'parity.addData' by a contract. Conditions: the row that is added to is the call's own; the columns are as long as it.
-/
import Derived.Test.YtigclcnkmbokhaaParAdd
import Derived.Test.YtigclcnkmbokhaaFieldSquare
namespace Go.Proofs.Ytigclcnkmbokhaa
open Go.RowKit
set_option maxRecDepth 100000
set_option linter.unusedVariables false

set_option maxHeartbeats 1600000 in
theorem addData_any (b g j n k cg cd B : Nat) (A : Option Addr) (ra : Nat → Option Addr) (rl rc : Nat → Nat) (x : Nat → Nat → Nat) (T : Nat → Nat) (w : World) (hb : Fld w b) (hg : RowG w g n T) (hr : RdR w B A k ra rl rc x) (hl : ∀ i, i < k → rl i = n)
    (hT : ∀ v, T v < 256) (hj : j < 3) (hk : k ≤ 60) (hgb : B ≤ g) (hbb : B ≤ b) (hne : g ≠ b) (hn : n ≤ 4096) (hB : B ≤ w.heap.size) :
    Calls Try.prog 34 #[.pointer (some ⟨b, 0, none⟩), .slice (some ⟨g, 0, none⟩) n cg, .int .i64 (j : Int), .slice A k cd] w fun e w' => e = .returned (.tuple #[]) ∧ Fld w' b ∧ RowG w' g n (fun v => T v ^^^ M.par k j x v) ∧ Only2 b g w w' := by
  have HR := Lib.hid hr
  have HL := Lib.hid hl
  have HT := Lib.hid hT
  have HNE := Lib.hid hne
  have F0 := Lib.hid hb
  have G0 : Hid (RowG w g n (fun v => T v ^^^ M.par 0 j x v)) := hg.congr fun v _ => (Nat.xor_zero _).symm
  have HBD : Hid (B ≤ g ∧ B ≤ b ∧ B ≤ w.heap.size) := ⟨hgb, hbb, hB⟩
  clear hr hl hT hne hb hg hgb hbb hB
  go_enter Try.func34, Try.ntmps34
  go_wp2_with fail
  go_loopw [12] (fun u wr => ∃ i : Nat, i ≤ k ∧ u = .int .i64 i ∧ Hid (Fld wr b) ∧ Hid (RowG wr g n (fun v => T v ^^^ M.par i j x v)) ∧ Hid (Only2 b g w wr)) (fun u _ => k - (intOf u).toNat)
  case atStart => exact ⟨0, by omega, rfl, F0, G0, Only2.refl _ _ _⟩
  case round =>
    obtain ⟨i, hi, rfl, F1, G1, O1⟩ := hrel
    clear F0 G0
    by_cases hlt : i < k
    · have BL := Lib.hid (O1.out.below HBD.out.2.1 HBD.out.1 HBD.out.2.2)
      obtain ⟨bx, ox, rfl, hbx, hcx, hrx⟩ := (HR.out.below BL.out (Nat.le_refl _)) i hlt
      rw [HL.out i hlt] at hcx hrx
      have HRX := Lib.hid hrx
      clear hrx hbx
      generalize hra : ra i = r1 at *
      generalize hrc : rc i = c1 at *
      clear hra hrc
      go_wp2_with fail
      refine (factor_any b j i _ hj (by omega) F1.out).mono ?_
      rintro e w2 ⟨rfl, hf2, ho2⟩
      have sz := Nat.le_trans HBD.out.2.2 O1.out.size
      have F2 := Lib.hid hf2
      have G2 := Lib.hid (G1.out.only ho2 HNE.out)
      have O2 := Lib.hid (O1.out.only ho2)
      have X2 := Lib.hid (HRX.out.below (ho2.below HBD.out.2.1 sz) (Nat.le_refl _))
      have s2 := Nat.le_trans sz ho2.size
      clear hf2 ho2 F1 G1 O1 HRX BL
      have hp := M.pw_any_lt (i * j)
      generalize hpe : M.pw (i * j) = p at *
      have HPE := Lib.hid hpe
      clear hpe
      go_wp2_with fail
      refine (addTimes_any b g p n cg c1 B r1 (fun v => T v ^^^ M.par i j x v) (x i) _ F2.out G2.out X2.out (fun v => M.xor_lt (HT.out v) (M.par_lt _ _ _ _)) hp HBD.out.1 HBD.out.2.1 HNE.out hn s2).mono ?_
      rintro e w3 ⟨rfl, hf3, hg3, ho3⟩
      have F3 := Lib.hid hf3
      have G3 : Hid (RowG w3 g n (fun v => T v ^^^ M.par (i + 1) j x v)) := hg3.congr fun v _ => by
        rw [M.par_succ, HPE.out, Nat.xor_assoc]
      have O3 := Lib.hid (O2.out.trans ho3)
      clear hf3 hg3 ho3 F2 G2 O2 X2
      go_wp2_with fail
      go_roundw
      case rel => exact ⟨i + 1, by omega, by go_num, F3, G3, O3⟩
      case measure => simp [intOf]; omega
    · obtain rfl : i = k := by omega
      go_wp2_with fail
      go_end0
      exact ⟨rfl, F1.out, G1.out, O1.out⟩
end Go.Proofs.Ytigclcnkmbokhaa
