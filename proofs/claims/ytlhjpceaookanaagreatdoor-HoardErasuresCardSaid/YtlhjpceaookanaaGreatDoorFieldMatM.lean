/-
  'parity.factor' and 'parity.addTimes', each by a contract. Conditions: the row that is added to is the call's own; bytes are bytes.
-/
import Derived.Test.YtlhjpceaookanaaGreatDoorGenRowM
import Derived.Test.YtlhjpceaookanaaGreatDoorBytesM
import Derived.Test.YtlhjpceaookanaaGreatDoorOwn8
import Derived.Test.YtlhjpceaookanaaGreatDoorArrCallsM
import Derived.Test.YtlhjpceaookanaaGreatDoorFieldGaussM
namespace Go.Proofs.YtlhjpceaookanaaGreatDoor
open Go.RowKit
set_option maxRecDepth 100000
set_option linter.unusedVariables false

namespace M
theorem mixR_lt {T X : Nat → Nat} (hT : ∀ j, T j < 256) (c k j : Nat) : mixR T X c k j < 256 := by
  unfold mixR
  split
  · exact xor_lt (hT j) (gmul_lt _ _)
  · exact hT j
end M

/-- Two blocks alone may have turned, others may be new. -/
structure Only2 (g h : Nat) (a w : World) : Prop where
  os : w.os = a.os
  tape : w.tape = a.tape
  output : w.output = a.output
  size : a.heap.size ≤ w.heap.size
  block : ∀ i, i < a.heap.size → i ≠ g → i ≠ h → w.heap[i]? = a.heap[i]?
section
variable {a b w : World} {g h : Nat}
theorem Only2.refl (g h : Nat) (w : World) : Only2 g h w w := ⟨rfl, rfl, rfl, Nat.le_refl _, fun _ _ _ _ => rfl⟩
theorem Only2.trans (k : Only2 g h a b) (l : Only2 g h b w) : Only2 g h a w :=
  ⟨l.os.trans k.os, l.tape.trans k.tape, l.output.trans k.output, Nat.le_trans k.size l.size, fun i hi h1 h2 => (l.block i (Nat.lt_of_lt_of_le hi k.size) h1 h2).trans (k.block i hi h1 h2)⟩
theorem Only2.only (k : Only2 g h a b) (l : Only g b w) : Only2 g h a w :=
  k.trans ⟨l.os, l.tape, l.output, l.size, fun i hi h1 _ => l.block i hi (by simpa using h1)⟩
theorem Only2.setCell (k : Only2 g h a w) (i : Nat) (u : Value) : Only2 g h a (w.setCell ⟨h, i, none⟩ u) :=
  k.trans ⟨rfl, rfl, rfl, by simp [World.setCell], fun j _ _ hj => Below.heap_setCell w ⟨h, i, none⟩ u j hj⟩
theorem Only2.drewN (k : Only2 g h a w) (n : Nat) : Only2 g h a (w.drewN n) := ⟨k.os, k.tape, k.output, k.size, k.block⟩
theorem Only2.drew (k : Only2 g h a w) : Only2 g h a w.drew := ⟨k.os, k.tape, k.output, k.size, k.block⟩
theorem Only2.below (k : Only2 g h a w) {B : Nat} (hg : B ≤ g) (hh : B ≤ h) (hs : B ≤ a.heap.size) : Below B a w :=
  ⟨k.os, k.tape, k.output, k.size, fun i hi => k.block i (by omega) (by omega) (by omega)⟩
theorem RowG.only {f n : Nat} {X : Nat → Nat} (k : RowG a f n X) (l : Only g a w) (hne : f ≠ g) : RowG w f n X := k.heap (l.block f k.lt (by simpa using hne))
end
theorem index_zero (g n c k : Nat) (hlt : k < n) (w : World) : (Instr.indexAt 36 (.slice (some ⟨g, 0, none⟩) n c) (.int .i64 (k : Int))).run Tryz.prog w = .ok (.pointer (some ⟨g, k, none⟩)) w := by
  have h := index_slice (P := Tryz.prog) (t := 36) (e := 5) Tryz.underlying36 size_u8 g 0 n c k hlt w
  rw [Nat.zero_add] at h
  exact h
theorem u8_xor_run (a b : Nat) (ha : a < 256) (hb : b < 256) (w : World) : (binOp .xor 5 (.int .u8 (a : Int)) (.int .u8 (b : Int))).run Tryz.prog w = .ok (.int .u8 ((a ^^^ b : Nat) : Int)) w := by
  rw [← u8_xor_nat a b ha hb]
  kernel_rfl


set_option maxHeartbeats 400000 in
theorem factor_any (b j i : Nat) (w : World) (hj : j < 3) (hi : i < 64) (hb : Fld w b) :
    Calls Tryz.prog 114 #[.pointer (some ⟨b, 0, none⟩), .int .i64 (j : Int), .int .i64 (i : Int)] w fun e w' => e = .returned (.int .u8 ((M.pw (i * j) : Nat) : Int)) ∧ Fld w' b ∧ Only b w w' := by
  have HB := Lib.hid hb
  clear hb
  have hm : i * j ≤ 64 * 3 := Nat.mul_le_mul (by omega) (by omega)
  have e1 : IntKind.i64.wrap ((i : Int) * (j : Int)) = ((i * j : Nat) : Int) := by rw [← Int.natCast_mul, IntKind.wrap_i64]; omega
  generalize i * j = m at *
  go_enter Tryz.func114, Tryz.ntmps114
  go_wp2_with fail
  refine (pow_at (x := 2) (r := M.pw m) (n := (m : Int)) (by omega) (by rw [Int.toNat_natCast, M.gpow_two]) (by omega) (by omega) HB.out).mono ?_
  rintro e w1 ⟨rfl, hf1, ho1⟩
  have HF := Lib.hid hf1
  have HO := Lib.hid ho1
  clear hf1 ho1 HB
  go_wp2_with fail
  go_ret
  exact ⟨rfl, HF.out, HO.out⟩

set_option maxHeartbeats 1600000 in
theorem addTimes_any (b g c n cg cx B : Nat) (A : Option Addr) (T X : Nat → Nat) (w : World) (hb : Fld w b) (hg : RowG w g n T) (hx : RdB w B A n X) (hT : ∀ j, T j < 256) (hc : c < 256) (hgb : B ≤ g) (hbb : B ≤ b) (hne : g ≠ b) (hn : n ≤ 4096) (hB : B ≤ w.heap.size) :
    Calls Tryz.prog 113 #[.pointer (some ⟨b, 0, none⟩), .slice (some ⟨g, 0, none⟩) n cg, .int .u8 (c : Int), .slice A n cx] w fun e w' => e = .returned (.tuple #[]) ∧ Fld w' b ∧ RowG w' g n (fun j => T j ^^^ M.gmul c (X j)) ∧ Only2 b g w w' := by
  have HX := Lib.hid hx
  have HNE := Lib.hid hne
  have F0 := Lib.hid hb
  have G0 : Hid (RowG w g n (M.mixR T X c 0)) := hg.congr fun j _ => by unfold M.mixR; rw [if_neg (by omega)]
  have HBD : Hid (B ≤ g ∧ B ≤ b ∧ B ≤ w.heap.size) := ⟨hgb, hbb, hB⟩
  clear hx hne hb hg hgb hbb hB
  go_enter Tryz.func113, Tryz.ntmps113
  go_wp2_with fail
  go_loopw [12] (fun x wr => ∃ k : Nat, k ≤ n ∧ x = .int .i64 k ∧ Hid (Fld wr b) ∧ Hid (RowG wr g n (M.mixR T X c k)) ∧ Hid (Only2 b g w wr)) (fun x _ => n - (intOf x).toNat)
  case atStart => exact ⟨0, by omega, rfl, F0, G0, Only2.refl _ _ _⟩
  case round =>
    obtain ⟨k, hk, rfl, F1, G1, O1⟩ := hrel
    clear F0 G0
    by_cases hlt : k < n
    · obtain ⟨bx, ox, rfl, hbx, hcx, hxk⟩ := (HX.out.below (O1.out.below HBD.out.2.1 HBD.out.1 HBD.out.2.2) (Nat.le_refl _)) k hlt
      have HC := Lib.hid (show M.mixR T X c k k = T k by unfold M.mixR; rw [if_neg (by omega)])
      generalize hxe : X k = xk at *
      have HXE := Lib.hid hxe
      clear hxe
      go_wp2_with fail
      have HS := Lib.hid (G1.out.cell hlt)
      clear hcx hbx
      refine region_anyZ (fun W : World => W.cell? ⟨g, k, none⟩ = some (.int .u8 ((M.mixR T X c k k : Nat) : Int))) 10 (by kernel_rfl) ?_
      refine takeG 0 (.move (.tmp 1)) (some 17) none (.slice (some ⟨g, 0, none⟩) n cg) (by kernel_rfl) (by kernel_rfl) (by kernel_rfl) (fun _ _ _ h => h) (fun o w e hS => exec_move w e (by kernel_rfl)) HS.out ?_
      refine takeG 1 (.move (.tmp 8)) (some 18) none (.int .i64 (k : Int)) (by kernel_rfl) (by kernel_rfl) (by kernel_rfl) (fun _ _ _ h => h) (fun o w e hS => exec_move w e (by kernel_rfl)) HS.out ?_
      refine takeG 2 (.indexAddr 36 (.tmp 17) (.tmp 18)) (some 19) none (.pointer (some ⟨g, k, none⟩)) (by kernel_rfl) (by kernel_rfl) (by kernel_rfl) (fun _ _ _ h => h) (fun o w e hS => exec_index (u1 := .slice (some ⟨g, 0, none⟩) n cg) (u2 := .int .i64 (k : Int)) w e (by kernel_rfl) (by kernel_rfl) (index_zero g n cg k hlt _)) HS.out ?_
      refine takeG 3 (.load 5 (.tmp 19)) (some 20) none (.int .u8 ((M.mixR T X c k k : Nat) : Int)) (by kernel_rfl) (by kernel_rfl) (by kernel_rfl) (fun _ _ _ h => h) (fun o w e hS => exec_load (x := (.tmp 19)) e (by kernel_rfl) (load_one Tryz.underlying5 (by kernel_rfl) hS)) HS.out ?_
      refine takeG 4 (.move (.tmp 0)) (some 21) none (.pointer (some ⟨b, 0, none⟩)) (by kernel_rfl) (by kernel_rfl) (by kernel_rfl) (fun _ _ _ h => h) (fun o w e hS => exec_move w e (by kernel_rfl)) HS.out ?_
      refine takeG 5 (.move (.tmp 2)) (some 22) none (.int .u8 (c : Int)) (by kernel_rfl) (by kernel_rfl) (by kernel_rfl) (fun _ _ _ h => h) (fun o w e hS => exec_move w e (by kernel_rfl)) HS.out ?_
      refine takeG 6 (.move (.tmp 9)) (some 23) none (.int .u8 (xk : Int)) (by kernel_rfl) (by kernel_rfl) (by kernel_rfl) (fun _ _ _ h => h) (fun o w e hS => exec_move w e (by kernel_rfl)) HS.out ?_
      refine loneG 7 (.call ⟨.value (.func 117), #[(.tmp 21), (.tmp 22), (.tmp 23)], #[132, 5, 5]⟩) (some 24) none (by kernel_rfl) (by kernel_rfl) (by kernel_rfl) ?_
      intro o ho hod
      refine wp_callC (f := 117) (args := #[.pointer (some ⟨b, 0, none⟩), .int .u8 (c : Int), .int .u8 (xk : Int)]) (by cases o; cases ho; kernel_rfl) (mul_some hc hxk F1.out) ?_
      rintro e w2 ⟨rfl, hf2, ho2⟩
      refine ⟨.int .u8 ((M.gmul c xk : Nat) : Int), rfl, ?_⟩
      rw [hod]
      clear hod ho
      have F2 := Lib.hid hf2
      have G2 := Lib.hid (RowG.only (show RowG wr.drew g n (M.mixR T X c k) from G1.out) ho2 HNE.out)
      have O2 := Lib.hid (O1.out.drew.only ho2)
      clear hf2 ho2
      have hc2 := G2.out.cell hlt
      have hz2 := G2.out.frozen hlt
      have HS2 := Lib.hid hc2
      refine ⟨fun _ => HS2.out, ?_⟩
      refine takeG 8 (.binOp .xor 5 (.tmp 20) (.tmp 24) 5) (some 25) none (.int .u8 ((M.mixR T X c k k ^^^ M.gmul c xk : Nat) : Int)) (by kernel_rfl) (by kernel_rfl) (by kernel_rfl) (fun _ _ _ h => h) (fun o w e hS => exec_bin (u1 := .int .u8 ((M.mixR T X c k k : Nat) : Int)) (u2 := .int .u8 ((M.gmul c xk : Nat) : Int)) w e (by kernel_rfl) (by kernel_rfl) (eqG_int ..) (u8_xor_run _ _ (M.mixR_lt hT c k k) (M.gmul_lt c xk) _)) HS2.out ?_
      refine takeG 9 (.indexAddr 36 (.tmp 17) (.tmp 18)) (some 26) none (.pointer (some ⟨g, k, none⟩)) (by kernel_rfl) (by kernel_rfl) (by kernel_rfl) (fun _ _ _ h => h) (fun o w e hS => exec_index (u1 := .slice (some ⟨g, 0, none⟩) n cg) (u2 := .int .i64 (k : Int)) w e (by kernel_rfl) (by kernel_rfl) (index_zero g n cg k hlt _)) HS2.out ?_
      refine lastStore 10 5 (.tmp 26) (.tmp 25) (.pointer (some ⟨g, k, none⟩)) (.int .u8 ((M.mixR T X c k k ^^^ M.gmul c xk : Nat) : Int)) _ (by kernel_rfl) (by kernel_rfl) (by kernel_rfl) rfl (by kernel_rfl) (by kernel_rfl) (store_one size_u8 rfl rfl (by rw [hc2]; rfl) hz2 (by rw [add_plain]; rfl)) ?_
      have F3 := Lib.hid (F2.out.far (p := ⟨g, k, none⟩) (fun e => HNE.out e.symm) (.int .u8 ((M.mixR T X c k k ^^^ M.gmul c xk : Nat) : Int)))
      have G3 : Hid (RowG (w2.setCell ⟨g, k, none⟩ (.int .u8 ((M.mixR T X c k k ^^^ M.gmul c xk : Nat) : Int))) g n (M.mixR T X c (k + 1))) := (G2.out.set hlt).congr fun j _ => by
        unfold upd
        by_cases e : j = k
        · subst e; rw [if_pos rfl, HC.out, ← HXE.out]; unfold M.mixR; rw [if_pos (by omega)]
        · rw [if_neg e]; unfold M.mixR
          by_cases e2 : j < k
          · rw [if_pos e2, if_pos (by omega)]
          · rw [if_neg e2, if_neg (by omega)]
      have O3 := Lib.hid (O2.out.setCell k (.int .u8 ((M.mixR T X c k k ^^^ M.gmul c xk : Nat) : Int)))
      clear F2 G2 O2 F1 G1 O1 HS HS2 hc2 hz2
      simp only [put_some, put_none, List.setIfInBounds_toArray, List.set_cons_succ, List.set_cons_zero]
      go_wp2_with fail
      go_roundw
      case rel => exact ⟨k + 1, by omega, by go_num, F3, G3, O3⟩
      case measure => simp [intOf]; omega
    · have G2 : Hid (RowG wr g n (fun j => T j ^^^ M.gmul c (X j))) := G1.out.congr fun j hj => by unfold M.mixR; rw [if_pos (by omega)]
      clear G1
      go_wp2_with fail
      go_end0
      exact ⟨rfl, F1.out, G2.out, O1.out⟩
end Go.Proofs.YtlhjpceaookanaaGreatDoor
namespace Go.Proofs.YtlhjpceaookanaaGreatDoor
open Go.RowKit
set_option maxRecDepth 100000
set_option linter.unusedVariables false

/-- n rows of bytes that lie below block B. -/
def RdR (w : World) (B : Nat) (A : Option Addr) (n : Nat) (ra : Nat → Option Addr) (rl rc : Nat → Nat) (x : Nat → Nat → Nat) : Prop :=
  ∀ i, i < n → ∃ b o, A = some ⟨b, o, none⟩ ∧ b < B ∧ w.cell? ⟨b, o + i, none⟩ = some (.slice (ra i) (rl i) (rc i)) ∧ RdB w B (ra i) (rl i) (x i)
theorem RdR.below {w w' : World} {B B' : Nat} {A : Option Addr} {n : Nat} {ra : Nat → Option Addr} {rl rc : Nat → Nat} {x : Nat → Nat → Nat} (h : RdR w B A n ra rl rc x) (hb : Below B' w w') (hB : B ≤ B') : RdR w' B A n ra rl rc x := by
  intro i hi
  obtain ⟨b, o, h1, h2, h3, h4⟩ := h i hi
  exact ⟨b, o, h1, h2, (hb.cell (p := ⟨b, o + i, none⟩) (by show b < B'; omega)).trans h3, h4.below hb hB⟩

/-- Is it a system? -/
def IsSq (n m : Nat) (rl : Nat → Nat) : Prop := 1 ≤ n ∧ n ≤ 8 ∧ m = n ∧ ∀ i, i < n → rl i = n

set_option maxRecDepth 100000 in
set_option maxHeartbeats 400000 in
theorem square_yes (A A2 : Option Addr) (n c m c2 : Nat) (B : Nat) (ra : Nat → Option Addr) (rl rc : Nat → Nat) (x : Nat → Nat → Nat) (w : World) (hr : RdR w B A n ra rl rc x) (hq : IsSq n m rl) :
    Calls Tryz.prog 121 #[.slice A n c, .slice A2 m c2] w fun e w' => e = .returned (.bool true) ∧ w = w' := by
  obtain ⟨hn1, hn8, rfl, hall⟩ := hq
  have HA := Lib.hid hall
  clear hall
  obtain ⟨b, o, rfl, _⟩ := hr 0 (by omega)
  have HR : Hid (∀ i, i < m → w.cell? ⟨b, o + i, none⟩ = some (.slice (ra i) (rl i) (rc i))) := by
    intro i hi
    obtain ⟨b', o', h1, _, h3, _⟩ := hr i hi
    injection h1 with h1
    injection h1 with h1 h2
    subst h1; subst h2
    exact h3
  clear hr
  have t1 : ((m : Int) < 1) = False := by simp; omega
  have t2 : ((8 : Int) < (m : Int)) = False := by simp; omega
  go_enter Tryz.func121, Tryz.ntmps121
  go_wp2
  go_loop [24] (fun x => ∃ k : Nat, k ≤ m ∧ x = .int .i64 k) (fun x => m - (intOf x).toNat)
  case atStart => exact ⟨0, by omega, rfl⟩
  case round =>
    obtain ⟨k, hk, rfl⟩ := hrel
    by_cases hlt : k < m
    · have hc := HR.out k hlt
      rw [HA.out k hlt] at hc
      generalize ra k = r1 at *
      generalize rc k = r2 at *
      go_wp2
      go_round
      case rel => exact ⟨k + 1, by omega, by go_num⟩
      case measure => simp [intOf]; omega
    · obtain rfl : k = m := by omega
      go_wp2
      go_ret
      exact ⟨rfl, rfl⟩

theorem least_bad {n : Nat} {rl : Nat → Nat} (h : ¬ ∀ i, i < n → rl i = n) : ∃ i0, i0 < n ∧ rl i0 ≠ n ∧ ∀ i, i < i0 → rl i = n := by
  have aux : ∀ k, k ≤ n → (∀ i, i < k → rl i = n) ∨ ∃ i0, i0 < n ∧ rl i0 ≠ n ∧ ∀ i, i < i0 → rl i = n := by
    intro k
    induction k with
    | zero => exact fun _ => .inl fun i hi => absurd hi (by omega)
    | succ k ih =>
      intro hk
      rcases ih (by omega) with h1 | h1
      · by_cases e : rl k = n
        · refine .inl fun i hi => ?_
          by_cases e2 : i = k
          · rw [e2, e]
          · exact h1 i (by omega)
        · exact .inr ⟨k, by omega, e, h1⟩
      · exact .inr h1
  rcases aux n (Nat.le_refl _) with h1 | h1
  · exact absurd h1 h
  · exact h1

set_option maxRecDepth 100000 in
set_option maxHeartbeats 400000 in
theorem square_no (A A2 : Option Addr) (n c m c2 : Nat) (B : Nat) (ra : Nat → Option Addr) (rl rc : Nat → Nat) (x : Nat → Nat → Nat) (w : World) (hr : RdR w B A n ra rl rc x) (hq : ¬ IsSq n m rl) :
    Calls Tryz.prog 121 #[.slice A n c, .slice A2 m c2] w fun e w' => e = .returned (.bool false) ∧ w = w' := by
  by_cases h1 : n = 0
  · subst h1
    go_enter Tryz.func121, Tryz.ntmps121
    go_wp2
    go_ret
    exact ⟨rfl, rfl⟩
  by_cases h8 : 8 < n
  · clear hr hq
    have t1 : ((n : Int) < 1) = False := by simp; omega
    have t2 : ((8 : Int) < (n : Int)) = True := by simp; omega
    go_enter Tryz.func121, Tryz.ntmps121
    go_wp2
    go_ret
    exact ⟨rfl, rfl⟩
  have t1 : ((n : Int) < 1) = False := by simp; omega
  have t2 : ((8 : Int) < (n : Int)) = False := by simp; omega
  by_cases hm : m = n
  · subst hm
    obtain ⟨i0, hi0, hbad, hall⟩ := least_bad (n := m) (rl := rl) (fun h => hq ⟨by omega, by omega, rfl, h⟩)
    have HA := Lib.hid hall
    have HN := Lib.hid hbad
    clear hall hq hbad
    obtain ⟨b, o, rfl, _⟩ := hr 0 (by omega)
    have HR : Hid (∀ i, i < m → w.cell? ⟨b, o + i, none⟩ = some (.slice (ra i) (rl i) (rc i))) := by
      intro i hi
      obtain ⟨b', o', h1, _, h3, _⟩ := hr i hi
      injection h1 with h1
      injection h1 with h1 h2
      subst h1; subst h2
      exact h3
    clear hr
    go_enter Tryz.func121, Tryz.ntmps121
    go_wp2
    go_loop [24] (fun x => ∃ k : Nat, k ≤ i0 ∧ x = .int .i64 k) (fun x => m - (intOf x).toNat)
    case atStart => exact ⟨0, by omega, rfl⟩
    case round =>
      obtain ⟨k, hk, rfl⟩ := hrel
      by_cases hlt : k < i0
      · have hc := HR.out k (by omega)
        rw [HA.out k hlt] at hc
        generalize ra k = r1 at *
        generalize rc k = r2 at *
        go_wp2
        go_round
        case rel => exact ⟨k + 1, by omega, by go_num⟩
        case measure => simp [intOf]; omega
      · obtain rfl : k = i0 := by omega
        have hc := HR.out k (by omega)
        have hne : ((rl k : Int) != (m : Int)) = true := by rw [bne_iff_ne]; have := HN.out; omega
        generalize ra k = r1 at *
        generalize rc k = r2 at *
        generalize rl k = r3 at *
        go_wp2
        go_ret
        exact ⟨rfl, rfl⟩
  · clear hr hq
    have hne : ((m : Int) != (n : Int)) = true := by rw [bne_iff_ne]; omega
    go_enter Tryz.func121, Tryz.ntmps121
    go_wp2
    go_ret
    exact ⟨rfl, rfl⟩
end Go.Proofs.YtlhjpceaookanaaGreatDoor
namespace Go.Proofs.YtlhjpceaookanaaGreatDoor
open Go.RowKit
set_option maxRecDepth 100000
set_option linter.unusedVariables false

set_option maxHeartbeats 1600000 in
theorem addData_any (b g j n k cg cd B : Nat) (A : Option Addr) (ra : Nat → Option Addr) (rl rc : Nat → Nat) (x : Nat → Nat → Nat) (T : Nat → Nat) (w : World) (hb : Fld w b) (hg : RowG w g n T) (hr : RdR w B A k ra rl rc x) (hl : ∀ i, i < k → rl i = n)
    (hT : ∀ v, T v < 256) (hj : j < 3) (hk : k ≤ 60) (hgb : B ≤ g) (hbb : B ≤ b) (hne : g ≠ b) (hn : n ≤ 4096) (hB : B ≤ w.heap.size) :
    Calls Tryz.prog 102 #[.pointer (some ⟨b, 0, none⟩), .slice (some ⟨g, 0, none⟩) n cg, .int .i64 (j : Int), .slice A k cd] w fun e w' => e = .returned (.tuple #[]) ∧ Fld w' b ∧ RowG w' g n (fun v => T v ^^^ M.par k j x v) ∧ Only2 b g w w' := by
  have HR := Lib.hid hr
  have HL := Lib.hid hl
  have HT := Lib.hid hT
  have HNE := Lib.hid hne
  have F0 := Lib.hid hb
  have G0 : Hid (RowG w g n (fun v => T v ^^^ M.par 0 j x v)) := hg.congr fun v _ => (Nat.xor_zero _).symm
  have HBD : Hid (B ≤ g ∧ B ≤ b ∧ B ≤ w.heap.size) := ⟨hgb, hbb, hB⟩
  clear hr hl hT hne hb hg hgb hbb hB
  go_enter Tryz.func102, Tryz.ntmps102
  go_wp2_with fail
  go_loopw [12] (fun u wr => ∃ i : Nat, i ≤ k ∧ u = .int .i64 i ∧ Hid (Fld wr b) ∧ Hid (RowG wr g n (fun v => T v ^^^ M.par i j x v)) ∧ Hid (Only2 b g w wr)) (fun u _ => k - (intOf u).toNat)
  case atStart => exact ⟨0, by omega, rfl, F0, G0, Only2.refl _ _ _⟩
  case round =>
    obtain ⟨i, hi, rfl, F1, G1, O1⟩ := hrel
    clear F0 G0
    by_cases hlt : i < k
    · have BL := Lib.hid (O1.out.below HBD.out.2.1 HBD.out.1 HBD.out.2.2)
      obtain ⟨bx, ox, rfl, hbx, hcx, hrx⟩ := (HR.out.below BL.out (Nat.le_refl _)) i hlt
      rw [HL.out i hlt] at hcx hrx
      have HRX := Lib.hid hrx
      clear hrx hbx
      generalize hra : ra i = r1 at *
      generalize hrc : rc i = c1 at *
      clear hra hrc
      go_wp2_with fail
      refine (factor_any b j i _ hj (by omega) F1.out).mono ?_
      rintro e w2 ⟨rfl, hf2, ho2⟩
      have sz := Nat.le_trans HBD.out.2.2 O1.out.size
      have F2 := Lib.hid hf2
      have G2 := Lib.hid (G1.out.only ho2 HNE.out)
      have O2 := Lib.hid (O1.out.only ho2)
      have X2 := Lib.hid (HRX.out.below (ho2.below HBD.out.2.1 sz) (Nat.le_refl _))
      have s2 := Nat.le_trans sz ho2.size
      clear hf2 ho2 F1 G1 O1 HRX BL
      have hp := M.pw_any_lt (i * j)
      generalize hpe : M.pw (i * j) = p at *
      have HPE := Lib.hid hpe
      clear hpe
      go_wp2_with fail
      refine (addTimes_any b g p n cg c1 B r1 (fun v => T v ^^^ M.par i j x v) (x i) _ F2.out G2.out X2.out (fun v => M.xor_lt (HT.out v) (M.par_lt _ _ _ _)) hp HBD.out.1 HBD.out.2.1 HNE.out hn s2).mono ?_
      rintro e w3 ⟨rfl, hf3, hg3, ho3⟩
      have F3 := Lib.hid hf3
      have G3 : Hid (RowG w3 g n (fun v => T v ^^^ M.par (i + 1) j x v)) := hg3.congr fun v _ => by
        rw [M.par_succ, HPE.out, Nat.xor_assoc]
      have O3 := Lib.hid (O2.out.trans ho3)
      clear hf3 hg3 ho3 F2 G2 O2 X2
      go_wp2_with fail
      go_roundw
      case rel => exact ⟨i + 1, by omega, by go_num, F3, G3, O3⟩
      case measure => simp [intOf]; omega
    · obtain rfl : i = k := by omega
      go_wp2_with fail
      go_end0
      exact ⟨rfl, F1.out, G1.out, O1.out⟩
end Go.Proofs.YtlhjpceaookanaaGreatDoor
namespace Go.Proofs.YtlhjpceaookanaaGreatDoor
open Go.RowKit
set_option maxRecDepth 100000
set_option linter.unusedVariables false

def hdArr (n m : Nat) (R : Nat → Nat) : Array Value := Array.ofFn (n := n) fun i => .slice (some ⟨R i.val, 0, none⟩) m m
theorem hdArr_get {n m : Nat} {R : Nat → Nat} {i : Nat} (h : i < n) : (hdArr n m R)[i]? = some (.slice (some ⟨R i, 0, none⟩) m m) := by simp [hdArr, h]
theorem hdArr_congr {n m : Nat} {f g : Nat → Nat} (h : ∀ c, c < n → f c = g c) : hdArr n m f = hdArr n m g := by
  unfold hdArr
  congr 1
  funext c
  rw [h c.val c.isLt]
theorem hdArr_set {n m : Nat} {R : Nat → Nat} {i r : Nat} (h : i < n) : (hdArr n m R).setIfInBounds i (.slice (some ⟨r, 0, none⟩) m m) = hdArr n m (fun j => if j = i then r else R j) := by
  apply Array.ext_getElem?
  intro j
  rw [Array.getElem?_setIfInBounds]
  have hs : (hdArr n m R).size = n := by simp [hdArr]
  rw [hs]
  by_cases hj : j < n
  · rw [hdArr_get hj, hdArr_get hj]
    by_cases e : i = j
    · rw [if_pos e, if_pos h, if_pos e.symm]
    · rw [if_neg e, if_neg (fun x => e x.symm)]
  · rw [if_neg (by omega), Array.getElem?_eq_none (by rw [hs]; omega), Array.getElem?_eq_none (by simp [hdArr]; omega)]

/-- The matrix: block bo holds the rows' heads, block 'R i' row i. -/
structure Mat (w : World) (bo n : Nat) (R : Nat → Nat) (m : Nat → Nat → Nat) : Prop where
  head : Blk w bo 36 (hdArr n (n + 1) R)
  row : ∀ i, i < n → Blk w (R i) 5 (rowArr (n + 1) (m i))
  inj : ∀ i j, i < n → j < n → R i = R j → i = j

section
variable {w w' : World} {bo n : Nat} {R : Nat → Nat} {m : Nat → Nat → Nat}
theorem Mat.headCell (h : Mat w bo n R m) {i : Nat} (hi : i < n) : w.cell? ⟨bo, i, none⟩ = some (.slice (some ⟨R i, 0, none⟩) (n + 1) (n + 1)) := (h.head.cell i).trans (hdArr_get hi)
theorem Mat.cell (h : Mat w bo n R m) {i j : Nat} (hi : i < n) (hj : j ≤ n) : w.cell? ⟨R i, j, none⟩ = some (.int .u8 ((m i j : Nat) : Int)) := ((h.row i hi).cell j).trans (rowArr_get (by omega))
theorem Mat.frozen (h : Mat w bo n R m) {i : Nat} (hi : i < n) (j : Nat) : w.frozen? ⟨R i, j, none⟩ = false := (h.row i hi).frozen j
theorem Mat.drewN (h : Mat w bo n R m) (k : Nat) : Mat (w.drewN k) bo n R m := ⟨h.head, h.row, h.inj⟩
theorem Mat.drew (h : Mat w bo n R m) : Mat w.drew bo n R m := ⟨h.head, h.row, h.inj⟩
theorem Mat.ne_ (h : Mat w bo n R m) {i : Nat} (hi : i < n) : bo ≠ R i := Blk.ne_ h.head (h.row i hi) (by decide)
theorem Mat.set_ (h : Mat w bo n R m) {i j v : Nat} (hi : i < n) (hj : j ≤ n) : Mat (w.setCell ⟨R i, j, none⟩ (.int .u8 ((v : Nat) : Int))) bo n R (fun a b => if a = i ∧ b = j then v else m a b) := by
  refine ⟨h.head.far (h.ne_ hi) _, fun a ha => ?_, h.inj⟩
  by_cases e : a = i
  · subst e
    have h1 := (h.row a ha).set_ j (.int .u8 ((v : Nat) : Int))
    rw [rowArr_set (by omega)] at h1
    have h2 : rowArr (n + 1) (fun b => if b = j then v else m a b) = rowArr (n + 1) (fun b => if a = a ∧ b = j then v else m a b) := rowArr_congr fun c _ => by simp
    rw [h2] at h1
    exact h1
  · have h1 := (h.row a ha).far (p := ⟨R i, j, none⟩) (fun x => e (h.inj a i ha hi x)) (.int .u8 ((v : Nat) : Int))
    have h2 : rowArr (n + 1) (m a) = rowArr (n + 1) (fun b => if a = i ∧ b = j then v else m a b) := rowArr_congr fun c _ => by rw [if_neg (fun x => e x.1)]
    rw [h2] at h1
    exact h1
theorem Mat.congr {m' : Nat → Nat → Nat} (h : Mat w bo n R m) (hm : ∀ i, i < n → ∀ j, j ≤ n → m i j = m' i j) : Mat w bo n R m' :=
  ⟨h.head, fun i hi => by rw [← rowArr_congr (fun c hc => hm i hi c (by omega))]; exact h.row i hi, h.inj⟩
end

/-- Only the rows have turned. -/
structure OnlyR (n : Nat) (R : Nat → Nat) (a w : World) : Prop where
  os : w.os = a.os
  tape : w.tape = a.tape
  output : w.output = a.output
  size : w.heap.size = a.heap.size
  block : ∀ q, (∀ i, i < n → q ≠ R i) → w.heap[q]? = a.heap[q]?
section
variable {a b c w : World} {n : Nat} {R : Nat → Nat}
theorem OnlyR.refl (n : Nat) (R : Nat → Nat) (w : World) : OnlyR n R w w := ⟨rfl, rfl, rfl, rfl, fun _ _ => rfl⟩
theorem OnlyR.trans (h : OnlyR n R a b) (k : OnlyR n R b c) : OnlyR n R a c :=
  ⟨k.os.trans h.os, k.tape.trans h.tape, k.output.trans h.output, k.size.trans h.size, fun q hq => (k.block q hq).trans (h.block q hq)⟩
theorem OnlyR.drewN (h : OnlyR n R a w) (k : Nat) : OnlyR n R a (w.drewN k) := ⟨h.os, h.tape, h.output, h.size, h.block⟩
theorem OnlyR.drew (h : OnlyR n R a w) : OnlyR n R a w.drew := ⟨h.os, h.tape, h.output, h.size, h.block⟩
theorem OnlyR.set_ (h : OnlyR n R a w) {i : Nat} (hi : i < n) (j : Nat) (u : Value) : OnlyR n R a (w.setCell ⟨R i, j, none⟩ u) :=
  ⟨h.os, h.tape, h.output, by simpa [World.setCell] using h.size, fun q hq => (Below.heap_setCell w ⟨R i, j, none⟩ u q (hq i hi)).trans (h.block q hq)⟩
theorem OnlyR.blk (h : OnlyR n R a w) {g : Nat} {t : TypeId} {cs : Array Value} (hg : Blk a g t cs) (hne : ∀ i, i < n → g ≠ R i) : Blk w g t cs := (h.block g hne).trans hg
theorem OnlyR.below (h : OnlyR n R a w) {B : Nat} (hB : ∀ i, i < n → B ≤ R i) : Below B a w :=
  ⟨h.os, h.tape, h.output, Nat.le_of_eq h.size.symm, fun k hk => h.block k fun i hi e => by have := hB i hi; omega⟩
end

set_option maxRecDepth 100000 in
set_option maxHeartbeats 400000 in
theorem pivot_yes (bo n k p : Nat) (R : Nat → Nat) (m : Nat → Nat → Nat) (w : World) (hn : n ≤ 8) (h : Mat w bo n R m) (hkp : k ≤ p) (hp : p < n) (hne : m p k ≠ 0) (hz : ∀ i, k ≤ i → i < p → m i k = 0) :
    Calls Tryz.prog 123 #[.slice (some ⟨bo, 0, none⟩) n n, .int .i64 k] w fun e w' => e = .returned (.int .i64 p) ∧ w = w' := by
  have H := Lib.hid h
  have HZ := Lib.hid hz
  have HN := Lib.hid hne
  clear h hz hne
  go_enter Tryz.func123, Tryz.ntmps123
  go_wp2
  go_loop [5] (fun x => ∃ i : Nat, k ≤ i ∧ i ≤ p ∧ x = .int .i64 i) (fun x => n - (intOf x).toNat)
  case atStart => exact ⟨k, by omega, hkp, rfl⟩
  case round =>
    obtain ⟨i, hki, hip, rfl⟩ := hrel
    have c1 := H.out.headCell (i := i) (by omega)
    have c2 := H.out.cell (i := i) (j := k) (by omega) (by omega)
    by_cases hlt : i < p
    · rw [HZ.out i hki hlt] at c2
      generalize R i = r at *
      go_wp2
      go_round
      case rel => exact ⟨i + 1, by omega, by omega, by go_num⟩
      case measure => simp [intOf]; omega
    · obtain rfl : i = p := by omega
      have hv : (((m i k : Nat) : Int) != 0) = true := by rw [bne_iff_ne]; have := HN.out; omega
      generalize R i = r at *
      generalize m i k = v at *
      go_wp2
      go_ret
      exact ⟨rfl, rfl⟩

set_option maxRecDepth 100000 in
set_option maxHeartbeats 400000 in
theorem pivot_no (bo n k : Nat) (R : Nat → Nat) (m : Nat → Nat → Nat) (w : World) (hn : n ≤ 8) (hk : k < n) (h : Mat w bo n R m) (hz : ∀ i, k ≤ i → i < n → m i k = 0) :
    Calls Tryz.prog 123 #[.slice (some ⟨bo, 0, none⟩) n n, .int .i64 k] w fun e w' => e = .returned (.int .i64 (-1)) ∧ w = w' := by
  have H := Lib.hid h
  have HZ := Lib.hid hz
  clear h hz
  go_enter Tryz.func123, Tryz.ntmps123
  go_wp2
  go_loop [5] (fun x => ∃ i : Nat, k ≤ i ∧ i ≤ n ∧ x = .int .i64 i) (fun x => n - (intOf x).toNat)
  case atStart => exact ⟨k, by omega, by omega, rfl⟩
  case round =>
    obtain ⟨i, hki, hip, rfl⟩ := hrel
    by_cases hlt : i < n
    · have c1 := H.out.headCell (i := i) (by omega)
      have c2 := H.out.cell (i := i) (j := k) (by omega) (by omega)
      rw [HZ.out i hki hlt] at c2
      generalize R i = r at *
      go_wp2
      go_round
      case rel => exact ⟨i + 1, by omega, by omega, by go_num⟩
      case measure => simp [intOf]; omega
    · obtain rfl : i = n := by omega
      go_wp2
      go_ret
      exact ⟨rfl, rfl⟩
end Go.Proofs.YtlhjpceaookanaaGreatDoor
