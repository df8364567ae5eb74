/-
  'field.square' and 'field.pivot', each by a contract. Conditions: what is handed in reads as rows of bytes.
-/
import Derived.Test.YtoabhbmhjelplaaFieldMul
import Derived.Test.YtoabhbmhjelplaaStrBM
import Derived.Test.YtoabhbmhjelplaaBytes
import Derived.Test.YtoabhbmhjelplaaParAdd
namespace Go.Proofs.Ytoabhbmhjelplaa
open Go.RowKit
set_option maxRecDepth 100000
set_option linter.unusedVariables false

/-- n rows of bytes that lie below block B. -/
def RdR (w : World) (B : Nat) (A : Option Addr) (n : Nat) (ra : Nat → Option Addr) (rl rc : Nat → Nat) (x : Nat → Nat → Nat) : Prop :=
  ∀ i, i < n → ∃ b o, A = some ⟨b, o, none⟩ ∧ b < B ∧ w.cell? ⟨b, o + i, none⟩ = some (.slice (ra i) (rl i) (rc i)) ∧ RdB w B (ra i) (rl i) (x i)
theorem RdR.below {w w' : World} {B B' : Nat} {A : Option Addr} {n : Nat} {ra : Nat → Option Addr} {rl rc : Nat → Nat} {x : Nat → Nat → Nat} (h : RdR w B A n ra rl rc x) (hb : Below B' w w') (hB : B ≤ B') : RdR w' B A n ra rl rc x := by
  intro i hi
  obtain ⟨b, o, h1, h2, h3, h4⟩ := h i hi
  exact ⟨b, o, h1, h2, (hb.cell (p := ⟨b, o + i, none⟩) (by show b < B'; omega)).trans h3, h4.below hb hB⟩

/-- Is it a system? -/
def IsSq (n m : Nat) (rl : Nat → Nat) : Prop := 1 ≤ n ∧ n ≤ 8 ∧ m = n ∧ ∀ i, i < n → rl i = n

set_option maxRecDepth 100000 in
set_option maxHeartbeats 400000 in
theorem square_yes (A A2 : Option Addr) (n c m c2 : Nat) (B : Nat) (ra : Nat → Option Addr) (rl rc : Nat → Nat) (x : Nat → Nat → Nat) (w : World) (hr : RdR w B A n ra rl rc x) (hq : IsSq n m rl) :
    Calls Try.prog 40 #[.slice A n c, .slice A2 m c2] w fun e w' => e = .returned (.bool true) ∧ w = w' := by
  obtain ⟨hn1, hn8, rfl, hall⟩ := hq
  have HA := Lib.hid hall
  clear hall
  obtain ⟨b, o, rfl, _⟩ := hr 0 (by omega)
  have HR : Hid (∀ i, i < m → w.cell? ⟨b, o + i, none⟩ = some (.slice (ra i) (rl i) (rc i))) := by
    intro i hi
    obtain ⟨b', o', h1, _, h3, _⟩ := hr i hi
    injection h1 with h1
    injection h1 with h1 h2
    subst h1; subst h2
    exact h3
  clear hr
  have t1 : ((m : Int) < 1) = False := by simp; omega
  have t2 : ((8 : Int) < (m : Int)) = False := by simp; omega
  go_enter Try.func40, Try.ntmps40
  go_wp2
  go_loop [24] (fun x => ∃ k : Nat, k ≤ m ∧ x = .int .i64 k) (fun x => m - (intOf x).toNat)
  case atStart => exact ⟨0, by omega, rfl⟩
  case round =>
    obtain ⟨k, hk, rfl⟩ := hrel
    by_cases hlt : k < m
    · have hc := HR.out k hlt
      rw [HA.out k hlt] at hc
      generalize ra k = r1 at *
      generalize rc k = r2 at *
      go_wp2
      go_round
      case rel => exact ⟨k + 1, by omega, by go_num⟩
      case measure => simp [intOf]; omega
    · obtain rfl : k = m := by omega
      go_wp2
      go_ret
      exact ⟨rfl, rfl⟩

theorem least_bad {n : Nat} {rl : Nat → Nat} (h : ¬ ∀ i, i < n → rl i = n) : ∃ i0, i0 < n ∧ rl i0 ≠ n ∧ ∀ i, i < i0 → rl i = n := by
  have aux : ∀ k, k ≤ n → (∀ i, i < k → rl i = n) ∨ ∃ i0, i0 < n ∧ rl i0 ≠ n ∧ ∀ i, i < i0 → rl i = n := by
    intro k
    induction k with
    | zero => exact fun _ => .inl fun i hi => absurd hi (by omega)
    | succ k ih =>
      intro hk
      rcases ih (by omega) with h1 | h1
      · by_cases e : rl k = n
        · refine .inl fun i hi => ?_
          by_cases e2 : i = k
          · rw [e2, e]
          · exact h1 i (by omega)
        · exact .inr ⟨k, by omega, e, h1⟩
      · exact .inr h1
  rcases aux n (Nat.le_refl _) with h1 | h1
  · exact absurd h1 h
  · exact h1

set_option maxRecDepth 100000 in
set_option maxHeartbeats 400000 in
theorem square_no (A A2 : Option Addr) (n c m c2 : Nat) (B : Nat) (ra : Nat → Option Addr) (rl rc : Nat → Nat) (x : Nat → Nat → Nat) (w : World) (hr : RdR w B A n ra rl rc x) (hq : ¬ IsSq n m rl) :
    Calls Try.prog 40 #[.slice A n c, .slice A2 m c2] w fun e w' => e = .returned (.bool false) ∧ w = w' := by
  by_cases h1 : n = 0
  · subst h1
    go_enter Try.func40, Try.ntmps40
    go_wp2
    go_ret
    exact ⟨rfl, rfl⟩
  by_cases h8 : 8 < n
  · clear hr hq
    have t1 : ((n : Int) < 1) = False := by simp; omega
    have t2 : ((8 : Int) < (n : Int)) = True := by simp; omega
    go_enter Try.func40, Try.ntmps40
    go_wp2
    go_ret
    exact ⟨rfl, rfl⟩
  have t1 : ((n : Int) < 1) = False := by simp; omega
  have t2 : ((8 : Int) < (n : Int)) = False := by simp; omega
  by_cases hm : m = n
  · subst hm
    obtain ⟨i0, hi0, hbad, hall⟩ := least_bad (n := m) (rl := rl) (fun h => hq ⟨by omega, by omega, rfl, h⟩)
    have HA := Lib.hid hall
    have HN := Lib.hid hbad
    clear hall hq hbad
    obtain ⟨b, o, rfl, _⟩ := hr 0 (by omega)
    have HR : Hid (∀ i, i < m → w.cell? ⟨b, o + i, none⟩ = some (.slice (ra i) (rl i) (rc i))) := by
      intro i hi
      obtain ⟨b', o', h1, _, h3, _⟩ := hr i hi
      injection h1 with h1
      injection h1 with h1 h2
      subst h1; subst h2
      exact h3
    clear hr
    go_enter Try.func40, Try.ntmps40
    go_wp2
    go_loop [24] (fun x => ∃ k : Nat, k ≤ i0 ∧ x = .int .i64 k) (fun x => m - (intOf x).toNat)
    case atStart => exact ⟨0, by omega, rfl⟩
    case round =>
      obtain ⟨k, hk, rfl⟩ := hrel
      by_cases hlt : k < i0
      · have hc := HR.out k (by omega)
        rw [HA.out k hlt] at hc
        generalize ra k = r1 at *
        generalize rc k = r2 at *
        go_wp2
        go_round
        case rel => exact ⟨k + 1, by omega, by go_num⟩
        case measure => simp [intOf]; omega
      · obtain rfl : k = i0 := by omega
        have hc := HR.out k (by omega)
        have hne : ((rl k : Int) != (m : Int)) = true := by rw [bne_iff_ne]; have := HN.out; omega
        generalize ra k = r1 at *
        generalize rc k = r2 at *
        generalize rl k = r3 at *
        go_wp2
        go_ret
        exact ⟨rfl, rfl⟩
  · clear hr hq
    have hne : ((m : Int) != (n : Int)) = true := by rw [bne_iff_ne]; omega
    go_enter Try.func40, Try.ntmps40
    go_wp2
    go_ret
    exact ⟨rfl, rfl⟩
end Go.Proofs.Ytoabhbmhjelplaa
namespace Go.Proofs.Ytoabhbmhjelplaa
open Go.RowKit
set_option maxRecDepth 100000
set_option linter.unusedVariables false

set_option maxHeartbeats 1600000 in
theorem addData_any (b g j n k cg cd B : Nat) (A : Option Addr) (ra : Nat → Option Addr) (rl rc : Nat → Nat) (x : Nat → Nat → Nat) (T : Nat → Nat) (w : World) (hb : Fld w b) (hg : RowG w g n T) (hr : RdR w B A k ra rl rc x) (hl : ∀ i, i < k → rl i = n)
    (hT : ∀ v, T v < 256) (hj : j < 3) (hk : k ≤ 60) (hgb : B ≤ g) (hbb : B ≤ b) (hne : g ≠ b) (hn : n ≤ 4096) (hB : B ≤ w.heap.size) :
    Calls Try.prog 33 #[.pointer (some ⟨b, 0, none⟩), .slice (some ⟨g, 0, none⟩) n cg, .int .i64 (j : Int), .slice A k cd] w fun e w' => e = .returned (.tuple #[]) ∧ Fld w' b ∧ RowG w' g n (fun v => T v ^^^ M.par k j x v) ∧ Only2 b g w w' := by
  have HR := Lib.hid hr
  have HL := Lib.hid hl
  have HT := Lib.hid hT
  have HNE := Lib.hid hne
  have F0 := Lib.hid hb
  have G0 : Hid (RowG w g n (fun v => T v ^^^ M.par 0 j x v)) := hg.congr fun v _ => (Nat.xor_zero _).symm
  have HBD : Hid (B ≤ g ∧ B ≤ b ∧ B ≤ w.heap.size) := ⟨hgb, hbb, hB⟩
  clear hr hl hT hne hb hg hgb hbb hB
  go_enter Try.func33, Try.ntmps33
  go_wp2_with fail
  go_loopw [12] (fun u wr => ∃ i : Nat, i ≤ k ∧ u = .int .i64 i ∧ Hid (Fld wr b) ∧ Hid (RowG wr g n (fun v => T v ^^^ M.par i j x v)) ∧ Hid (Only2 b g w wr)) (fun u _ => k - (intOf u).toNat)
  case atStart => exact ⟨0, by omega, rfl, F0, G0, Only2.refl _ _ _⟩
  case round =>
    obtain ⟨i, hi, rfl, F1, G1, O1⟩ := hrel
    clear F0 G0
    by_cases hlt : i < k
    · have BL := Lib.hid (O1.out.below HBD.out.2.1 HBD.out.1 HBD.out.2.2)
      obtain ⟨bx, ox, rfl, hbx, hcx, hrx⟩ := (HR.out.below BL.out (Nat.le_refl _)) i hlt
      rw [HL.out i hlt] at hcx hrx
      have HRX := Lib.hid hrx
      clear hrx hbx
      generalize hra : ra i = r1 at *
      generalize hrc : rc i = c1 at *
      clear hra hrc
      go_wp2_with fail
      refine (factor_any b j i _ hj (by omega) F1.out).mono ?_
      rintro e w2 ⟨rfl, hf2, ho2⟩
      have sz := Nat.le_trans HBD.out.2.2 O1.out.size
      have F2 := Lib.hid hf2
      have G2 := Lib.hid (G1.out.only ho2 HNE.out)
      have O2 := Lib.hid (O1.out.only ho2)
      have X2 := Lib.hid (HRX.out.below (ho2.below HBD.out.2.1 sz) (Nat.le_refl _))
      have s2 := Nat.le_trans sz ho2.size
      clear hf2 ho2 F1 G1 O1 HRX BL
      have hp := M.pw_any_lt (i * j)
      generalize hpe : M.pw (i * j) = p at *
      have HPE := Lib.hid hpe
      clear hpe
      go_wp2_with fail
      refine (addTimes_any b g p n cg c1 B r1 (fun v => T v ^^^ M.par i j x v) (x i) _ F2.out G2.out X2.out (fun v => M.xor_lt (HT.out v) (M.par_lt _ _ _ _)) hp HBD.out.1 HBD.out.2.1 HNE.out hn s2).mono ?_
      rintro e w3 ⟨rfl, hf3, hg3, ho3⟩
      have F3 := Lib.hid hf3
      have G3 : Hid (RowG w3 g n (fun v => T v ^^^ M.par (i + 1) j x v)) := hg3.congr fun v _ => by
        rw [M.par_succ, HPE.out, Nat.xor_assoc]
      have O3 := Lib.hid (O2.out.trans ho3)
      clear hf3 hg3 ho3 F2 G2 O2 X2
      go_wp2_with fail
      go_roundw
      case rel => exact ⟨i + 1, by omega, by go_num, F3, G3, O3⟩
      case measure => simp [intOf]; omega
    · obtain rfl : i = k := by omega
      go_wp2_with fail
      go_end0
      exact ⟨rfl, F1.out, G1.out, O1.out⟩
end Go.Proofs.Ytoabhbmhjelplaa
