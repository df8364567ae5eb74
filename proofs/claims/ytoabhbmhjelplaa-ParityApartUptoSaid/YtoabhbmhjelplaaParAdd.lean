/-
  'parity.factor' and 'parity.addTimes', each by a contract. Conditions: the row that is added to is the call's own; bytes are bytes.
-/
import Derived.Test.YtoabhbmhjelplaaRackMemM
import Derived.Test.YtoabhbmhjelplaaFieldMul
import Derived.Test.YtoabhbmhjelplaaStrBM
import Derived.Test.YtoabhbmhjelplaaOwn8
import Derived.Test.YtoabhbmhjelplaaDrawSeqM
namespace Go.Proofs.Ytoabhbmhjelplaa
open Go.RowKit
set_option maxRecDepth 100000
set_option linter.unusedVariables false

namespace M
theorem mixR_lt {T X : Nat → Nat} (hT : ∀ j, T j < 256) (c k j : Nat) : mixR T X c k j < 256 := by
  unfold mixR
  split
  · exact xor_lt (hT j) (gmul_lt _ _)
  · exact hT j
end M

/-- Two blocks alone may have turned, others may be new. -/
structure Only2 (g h : Nat) (a w : World) : Prop where
  os : w.os = a.os
  tape : w.tape = a.tape
  output : w.output = a.output
  size : a.heap.size ≤ w.heap.size
  block : ∀ i, i < a.heap.size → i ≠ g → i ≠ h → w.heap[i]? = a.heap[i]?
section
variable {a b w : World} {g h : Nat}
theorem Only2.refl (g h : Nat) (w : World) : Only2 g h w w := ⟨rfl, rfl, rfl, Nat.le_refl _, fun _ _ _ _ => rfl⟩
theorem Only2.trans (k : Only2 g h a b) (l : Only2 g h b w) : Only2 g h a w :=
  ⟨l.os.trans k.os, l.tape.trans k.tape, l.output.trans k.output, Nat.le_trans k.size l.size, fun i hi h1 h2 => (l.block i (Nat.lt_of_lt_of_le hi k.size) h1 h2).trans (k.block i hi h1 h2)⟩
theorem Only2.only (k : Only2 g h a b) (l : Only g b w) : Only2 g h a w :=
  k.trans ⟨l.os, l.tape, l.output, l.size, fun i hi h1 _ => l.block i hi (by simpa using h1)⟩
theorem Only2.setCell (k : Only2 g h a w) (i : Nat) (u : Value) : Only2 g h a (w.setCell ⟨h, i, none⟩ u) :=
  k.trans ⟨rfl, rfl, rfl, by simp [World.setCell], fun j _ _ hj => Below.heap_setCell w ⟨h, i, none⟩ u j hj⟩
theorem Only2.drewN (k : Only2 g h a w) (n : Nat) : Only2 g h a (w.drewN n) := ⟨k.os, k.tape, k.output, k.size, k.block⟩
theorem Only2.drew (k : Only2 g h a w) : Only2 g h a w.drew := ⟨k.os, k.tape, k.output, k.size, k.block⟩
theorem Only2.below (k : Only2 g h a w) {B : Nat} (hg : B ≤ g) (hh : B ≤ h) (hs : B ≤ a.heap.size) : Below B a w :=
  ⟨k.os, k.tape, k.output, k.size, fun i hi => k.block i (by omega) (by omega) (by omega)⟩
theorem RowG.only {f n : Nat} {X : Nat → Nat} (k : RowG a f n X) (l : Only g a w) (hne : f ≠ g) : RowG w f n X := k.heap (l.block f k.lt (by simpa using hne))
end
theorem index_zero (g n c k : Nat) (hlt : k < n) (w : World) : (Instr.indexAt 31 (.slice (some ⟨g, 0, none⟩) n c) (.int .i64 (k : Int))).run Try.prog w = .ok (.pointer (some ⟨g, k, none⟩)) w := by
  have h := index_slice (P := Try.prog) (t := 31) (e := 5) Try.underlying31 size_u8 g 0 n c k hlt w
  rw [Nat.zero_add] at h
  exact h
theorem u8_xor_run (a b : Nat) (ha : a < 256) (hb : b < 256) (w : World) : (binOp .xor 5 (.int .u8 (a : Int)) (.int .u8 (b : Int))).run Try.prog w = .ok (.int .u8 ((a ^^^ b : Nat) : Int)) w := by
  rw [← u8_xor_nat a b ha hb]
  kernel_rfl


set_option maxHeartbeats 400000 in
theorem factor_any (b j i : Nat) (w : World) (hj : j < 3) (hi : i < 64) (hb : Fld w b) :
    Calls Try.prog 36 #[.pointer (some ⟨b, 0, none⟩), .int .i64 (j : Int), .int .i64 (i : Int)] w fun e w' => e = .returned (.int .u8 ((M.pw (i * j) : Nat) : Int)) ∧ Fld w' b ∧ Only b w w' := by
  have HB := Lib.hid hb
  clear hb
  have hm : i * j ≤ 64 * 3 := Nat.mul_le_mul (by omega) (by omega)
  have e1 : IntKind.i64.wrap ((i : Int) * (j : Int)) = ((i * j : Nat) : Int) := by rw [← Int.natCast_mul, IntKind.wrap_i64]; omega
  generalize i * j = m at *
  go_enter Try.func36, Try.ntmps36
  go_wp2_with fail
  refine (pow_at (x := 2) (r := M.pw m) (n := (m : Int)) (by omega) (by rw [Int.toNat_natCast, M.gpow_two]) (by omega) (by omega) HB.out).mono ?_
  rintro e w1 ⟨rfl, hf1, ho1⟩
  have HF := Lib.hid hf1
  have HO := Lib.hid ho1
  clear hf1 ho1 HB
  go_wp2_with fail
  go_ret
  exact ⟨rfl, HF.out, HO.out⟩

set_option maxHeartbeats 1600000 in
theorem addTimes_any (b g c n cg cx B : Nat) (A : Option Addr) (T X : Nat → Nat) (w : World) (hb : Fld w b) (hg : RowG w g n T) (hx : RdB w B A n X) (hT : ∀ j, T j < 256) (hc : c < 256) (hgb : B ≤ g) (hbb : B ≤ b) (hne : g ≠ b) (hn : n ≤ 4096) (hB : B ≤ w.heap.size) :
    Calls Try.prog 35 #[.pointer (some ⟨b, 0, none⟩), .slice (some ⟨g, 0, none⟩) n cg, .int .u8 (c : Int), .slice A n cx] w fun e w' => e = .returned (.tuple #[]) ∧ Fld w' b ∧ RowG w' g n (fun j => T j ^^^ M.gmul c (X j)) ∧ Only2 b g w w' := by
  have HX := Lib.hid hx
  have HNE := Lib.hid hne
  have F0 := Lib.hid hb
  have G0 : Hid (RowG w g n (M.mixR T X c 0)) := hg.congr fun j _ => by unfold M.mixR; rw [if_neg (by omega)]
  have HBD : Hid (B ≤ g ∧ B ≤ b ∧ B ≤ w.heap.size) := ⟨hgb, hbb, hB⟩
  clear hx hne hb hg hgb hbb hB
  go_enter Try.func35, Try.ntmps35
  go_wp2_with fail
  go_loopw [12] (fun x wr => ∃ k : Nat, k ≤ n ∧ x = .int .i64 k ∧ Hid (Fld wr b) ∧ Hid (RowG wr g n (M.mixR T X c k)) ∧ Hid (Only2 b g w wr)) (fun x _ => n - (intOf x).toNat)
  case atStart => exact ⟨0, by omega, rfl, F0, G0, Only2.refl _ _ _⟩
  case round =>
    obtain ⟨k, hk, rfl, F1, G1, O1⟩ := hrel
    clear F0 G0
    by_cases hlt : k < n
    · obtain ⟨bx, ox, rfl, hbx, hcx, hxk⟩ := (HX.out.below (O1.out.below HBD.out.2.1 HBD.out.1 HBD.out.2.2) (Nat.le_refl _)) k hlt
      have HC := Lib.hid (show M.mixR T X c k k = T k by unfold M.mixR; rw [if_neg (by omega)])
      generalize hxe : X k = xk at *
      have HXE := Lib.hid hxe
      clear hxe
      go_wp2_with fail
      have HS := Lib.hid (G1.out.cell hlt)
      clear hcx hbx
      refine region_anyZ (fun W : World => W.cell? ⟨g, k, none⟩ = some (.int .u8 ((M.mixR T X c k k : Nat) : Int))) 10 (by kernel_rfl) ?_
      refine takeG 0 (.move (.tmp 1)) (some 17) none (.slice (some ⟨g, 0, none⟩) n cg) (by kernel_rfl) (by kernel_rfl) (by kernel_rfl) (fun _ _ _ h => h) (fun o w e hS => exec_move w e (by kernel_rfl)) HS.out ?_
      refine takeG 1 (.move (.tmp 8)) (some 18) none (.int .i64 (k : Int)) (by kernel_rfl) (by kernel_rfl) (by kernel_rfl) (fun _ _ _ h => h) (fun o w e hS => exec_move w e (by kernel_rfl)) HS.out ?_
      refine takeG 2 (.indexAddr 31 (.tmp 17) (.tmp 18)) (some 19) none (.pointer (some ⟨g, k, none⟩)) (by kernel_rfl) (by kernel_rfl) (by kernel_rfl) (fun _ _ _ h => h) (fun o w e hS => exec_index (u1 := .slice (some ⟨g, 0, none⟩) n cg) (u2 := .int .i64 (k : Int)) w e (by kernel_rfl) (by kernel_rfl) (index_zero g n cg k hlt _)) HS.out ?_
      refine takeG 3 (.load 5 (.tmp 19)) (some 20) none (.int .u8 ((M.mixR T X c k k : Nat) : Int)) (by kernel_rfl) (by kernel_rfl) (by kernel_rfl) (fun _ _ _ h => h) (fun o w e hS => exec_load (x := (.tmp 19)) e (by kernel_rfl) (load_one Try.underlying5 (by kernel_rfl) hS)) HS.out ?_
      refine takeG 4 (.move (.tmp 0)) (some 21) none (.pointer (some ⟨b, 0, none⟩)) (by kernel_rfl) (by kernel_rfl) (by kernel_rfl) (fun _ _ _ h => h) (fun o w e hS => exec_move w e (by kernel_rfl)) HS.out ?_
      refine takeG 5 (.move (.tmp 2)) (some 22) none (.int .u8 (c : Int)) (by kernel_rfl) (by kernel_rfl) (by kernel_rfl) (fun _ _ _ h => h) (fun o w e hS => exec_move w e (by kernel_rfl)) HS.out ?_
      refine takeG 6 (.move (.tmp 9)) (some 23) none (.int .u8 (xk : Int)) (by kernel_rfl) (by kernel_rfl) (by kernel_rfl) (fun _ _ _ h => h) (fun o w e hS => exec_move w e (by kernel_rfl)) HS.out ?_
      refine loneG 7 (.call ⟨.value (.func 38), #[(.tmp 21), (.tmp 22), (.tmp 23)], #[45, 5, 5]⟩) (some 24) none (by kernel_rfl) (by kernel_rfl) (by kernel_rfl) ?_
      intro o ho hod
      refine wp_callC (f := 38) (args := #[.pointer (some ⟨b, 0, none⟩), .int .u8 (c : Int), .int .u8 (xk : Int)]) (by cases o; cases ho; kernel_rfl) (mul_some hc hxk F1.out) ?_
      rintro e w2 ⟨rfl, hf2, ho2⟩
      refine ⟨.int .u8 ((M.gmul c xk : Nat) : Int), rfl, ?_⟩
      rw [hod]
      clear hod ho
      have F2 := Lib.hid hf2
      have G2 := Lib.hid (RowG.only (show RowG wr.drew g n (M.mixR T X c k) from G1.out) ho2 HNE.out)
      have O2 := Lib.hid (O1.out.drew.only ho2)
      clear hf2 ho2
      have hc2 := G2.out.cell hlt
      have hz2 := G2.out.frozen hlt
      have HS2 := Lib.hid hc2
      refine ⟨fun _ => HS2.out, ?_⟩
      refine takeG 8 (.binOp .xor 5 (.tmp 20) (.tmp 24) 5) (some 25) none (.int .u8 ((M.mixR T X c k k ^^^ M.gmul c xk : Nat) : Int)) (by kernel_rfl) (by kernel_rfl) (by kernel_rfl) (fun _ _ _ h => h) (fun o w e hS => exec_bin (u1 := .int .u8 ((M.mixR T X c k k : Nat) : Int)) (u2 := .int .u8 ((M.gmul c xk : Nat) : Int)) w e (by kernel_rfl) (by kernel_rfl) (eqG_int ..) (u8_xor_run _ _ (M.mixR_lt hT c k k) (M.gmul_lt c xk) _)) HS2.out ?_
      refine takeG 9 (.indexAddr 31 (.tmp 17) (.tmp 18)) (some 26) none (.pointer (some ⟨g, k, none⟩)) (by kernel_rfl) (by kernel_rfl) (by kernel_rfl) (fun _ _ _ h => h) (fun o w e hS => exec_index (u1 := .slice (some ⟨g, 0, none⟩) n cg) (u2 := .int .i64 (k : Int)) w e (by kernel_rfl) (by kernel_rfl) (index_zero g n cg k hlt _)) HS2.out ?_
      refine lastStore 10 5 (.tmp 26) (.tmp 25) (.pointer (some ⟨g, k, none⟩)) (.int .u8 ((M.mixR T X c k k ^^^ M.gmul c xk : Nat) : Int)) _ (by kernel_rfl) (by kernel_rfl) (by kernel_rfl) rfl (by kernel_rfl) (by kernel_rfl) (store_one size_u8 rfl rfl (by rw [hc2]; rfl) hz2 (by rw [add_plain]; rfl)) ?_
      have F3 := Lib.hid (F2.out.far (p := ⟨g, k, none⟩) (fun e => HNE.out e.symm) (.int .u8 ((M.mixR T X c k k ^^^ M.gmul c xk : Nat) : Int)))
      have G3 : Hid (RowG (w2.setCell ⟨g, k, none⟩ (.int .u8 ((M.mixR T X c k k ^^^ M.gmul c xk : Nat) : Int))) g n (M.mixR T X c (k + 1))) := (G2.out.set hlt).congr fun j _ => by
        unfold upd
        by_cases e : j = k
        · subst e; rw [if_pos rfl, HC.out, ← HXE.out]; unfold M.mixR; rw [if_pos (by omega)]
        · rw [if_neg e]; unfold M.mixR
          by_cases e2 : j < k
          · rw [if_pos e2, if_pos (by omega)]
          · rw [if_neg e2, if_neg (by omega)]
      have O3 := Lib.hid (O2.out.setCell k (.int .u8 ((M.mixR T X c k k ^^^ M.gmul c xk : Nat) : Int)))
      clear F2 G2 O2 F1 G1 O1 HS HS2 hc2 hz2
      simp only [put_some, put_none, List.setIfInBounds_toArray, List.set_cons_succ, List.set_cons_zero]
      go_wp2_with fail
      go_roundw
      case rel => exact ⟨k + 1, by omega, by go_num, F3, G3, O3⟩
      case measure => simp [intOf]; omega
    · have G2 : Hid (RowG wr g n (fun j => T j ^^^ M.gmul c (X j))) := G1.out.congr fun j hj => by unfold M.mixR; rw [if_pos (by omega)]
      clear G1
      go_wp2_with fail
      go_end0
      exact ⟨rfl, F1.out, G2.out, O1.out⟩
end Go.Proofs.Ytoabhbmhjelplaa
