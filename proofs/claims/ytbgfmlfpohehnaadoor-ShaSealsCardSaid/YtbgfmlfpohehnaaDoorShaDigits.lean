/-
  'sha.Digits' by contracts: 32 bytes are told, what hasn't 32 is refused. No conditions beyond those.
-/
import Derived.Test.YtbgfmlfpohehnaaDoorShaText
import Derived.Test.YtbgfmlfpohehnaaDoorOwn8
namespace Go.Proofs.YtbgfmlfpohehnaaDoor
open Go Go.RowKit
set_option linter.unusedVariables false

def hexd (x : Nat) : Nat := if x < 10 then 48 + x else 87 + x
def hexB (X : Nat → Nat) (j : Nat) : Nat := if j % 2 = 0 then hexd (X (j / 2) / 16) else hexd (X (j / 2) % 16)
theorem hexd_lt {x : Nat} (h : x < 16) : hexd x < 256 := by unfold hexd; split <;> omega
theorem hexB_lt {X : Nat → Nat} (hX : ∀ j, X j < 256) (j : Nat) : hexB X j < 256 := by
  unfold hexB
  have := hX (j / 2)
  split
  · exact hexd_lt (by omega)
  · exact hexd_lt (by omega)
def hexTo (X : Nat → Nat) (k j : Nat) : Nat := if j < 2 * k then hexB X j else 0
theorem hexTo_set (X : Nat → Nat) (k : Nat) (hk : k < 32) : ((rowArr 64 (hexTo X k)).setIfInBounds (2 * k) (.int .u8 ((hexd (X k / 16) : Nat) : Int))).setIfInBounds (2 * k + 1) (.int .u8 ((hexd (X k % 16) : Nat) : Int)) = rowArr 64 (hexTo X (k + 1)) := by
  rw [rowArr_set (by omega), rowArr_set (by omega)]
  refine rowArr_congr fun c hc => ?_
  unfold hexTo hexB
  by_cases e1 : c = 2 * k + 1
  · have h2 : c / 2 = k := by omega
    have h3 : c < 2 * (k + 1) := by omega
    have h4 : ¬ c % 2 = 0 := by omega
    rw [if_pos e1, h2, if_pos h3, if_neg h4]
  rw [if_neg e1]
  by_cases e0 : c = 2 * k
  · have h2 : c / 2 = k := by omega
    have h3 : c < 2 * (k + 1) := by omega
    have h4 : c % 2 = 0 := by omega
    rw [if_pos e0, h2, if_pos h3, if_pos h4]
  rw [if_neg e0]
  by_cases h : c < 2 * k
  · rw [if_pos h, if_pos (show c < 2 * (k + 1) by omega)]
  · rw [if_neg h, if_neg (show ¬ c < 2 * (k + 1) by omega)]
theorem zero_hex (w : World) : (Sem.run Tryd.prog (zeroValue 37) w) = .ok (.agg (rowArr 64 fun _ => 0)) w := by kernel_rfl
theorem strB_getElem (n : Nat) (X : Nat → Nat) (k : Nat) (hk : k < n) (hX : X k < 256) (h : k < (strB n X).size) : ((strB n X)[k]'h).toNat = X k := by
  have e : (strB n X).data.toList[k]? = some (UInt8.ofNat (X k)) := by rw [strB_data]; simp [hk]
  have e2 : (strB n X).data[k]? = some (UInt8.ofNat (X k)) := by rw [← Array.getElem?_toList]; exact e
  have e3 : (strB n X)[k]'h = UInt8.ofNat (X k) := by
    have := Array.getElem?_eq_some_iff.1 e2
    exact this.2
  rw [e3, UInt8.toNat_ofNat']
  omega
/-- 's[k]' -/
theorem index_str (n : Nat) (X : Nat → Nat) (k : Nat) (hk : k < n) (hX : X k < 256) (K : IntKind) (w : World) : (Instr.index 9 (.string (strB n X)) (.int K (k : Int))).run Tryd.prog w = .ok (.int .u8 ((X k : Nat) : Int)) w := by
  have hs := strB_size n X
  have h : k < (strB n X).size := by omega
  have := strB_getElem n X k hk hX h
  simp [Instr.index, run_underlying Tryd.underlying9, asIntOf, Sem.run_bind, h, this]
theorem hexS_is : ({ data := #[48, 49, 50, 51, 52, 53, 54, 55, 56, 57, 97, 98, 99, 100, 101, 102] } : ByteArray) = strB 16 hexd := by kernel_rfl
theorem index_hex (y : Nat) (hy : y < 16) (w : World) : (Instr.index 9 (.string { data := #[48, 49, 50, 51, 52, 53, 54, 55, 56, 57, 97, 98, 99, 100, 101, 102] }) (.int .u8 (y : Int))).run Tryd.prog w = .ok (.int .u8 ((hexd y : Nat) : Int)) w := by
  rw [hexS_is]
  exact index_str 16 hexd y hy (hexd_lt hy) .u8 w

set_option maxHeartbeats 400000 in
theorem digits_bad (s : ByteArray) (w : World) (hs : s.size ≠ 32) (hm : s.size ≤ maxLen) :
    Calls Tryd.prog 11 #[.string s] w fun e w' => e = .returned (.tuple #[.string ⟨#[]⟩, .int .i64 1]) ∧ w = w' := by
  unfold maxLen at hm
  have t1 : ((s.size : Int) != 32) = true := by simp; omega
  have t2 : ((s.size : Int) == 32) = false := by simp; omega
  go_enter Tryd.func11, Tryd.ntmps11
  go_wp2_with fail
  go_ret2
  exact ⟨rfl, rfl⟩

set_option maxRecDepth 100000 in
set_option maxHeartbeats 1600000 in
theorem digits_any (X : Nat → Nat) (w : World) (hX : ∀ j, X j < 256) :
    Calls Tryd.prog 11 #[.string (strB 32 X)] w fun e w' => e = .returned (.tuple #[.string (strB 64 (hexB X)), .int .i64 0]) ∧ Below w.heap.size w w' := by
  have hz := zero_hex
  have hsz : (strB 32 X).size = 32 := strB_size 32 X
  have B0 : Hid (Blk (w.alloc (.cells (rowArr 64 fun _ => 0) 37)) w.heap.size 37 (rowArr 64 (hexTo X 0))) := Lib.hid (Blk.new w _ _)
  have L0 : Hid (Below w.heap.size w (w.alloc (.cells (rowArr 64 fun _ => 0) 37))) := Lib.hid ((Below.refl _ _).alloc (Nat.le_refl _) _)
  go_enter Tryd.func11, Tryd.ntmps11
  go_wp2_with fail
  generalize w.alloc (.cells (rowArr 64 fun _ => 0) 37) = w1 at *
  generalize hh : w.heap.size = h at *
  have HH := Lib.hid hh
  clear hh hz
  go_loopw [5, 9] (fun _ x wr => ∃ k : Nat, k ≤ 32 ∧ x = .int .i64 k ∧ Hid (Blk wr h 37 (rowArr 64 (hexTo X k))) ∧ Hid (Below h w wr)) (fun _ x _ => 32 - (intOf x).toNat)
  case atStart => exact ⟨0, by omega, rfl, B0, L0⟩
  case round =>
    obtain ⟨k, hk, rfl, B1, L1⟩ := hrel
    clear B0 L0
    by_cases hlt : k < 32
    · have i1 : (0 : Int) ≤ (k : Int) := by omega
      have i2 : (k : Int) < 32 := by omega
      have hx := hX k
      have hi1 := index_str 32 X k hlt hx .i64
      have HS := Lib.hid (hexTo_set X k hlt)
      obtain ⟨u, hu⟩ : ∃ u, u = X k / 16 := ⟨_, rfl⟩
      obtain ⟨v, hv⟩ : ∃ v, v = X k % 16 := ⟨_, rfl⟩
      rw [← hu, ← hv] at HS
      have x1 : ((X k : Nat) : Int) / 16 = (u : Int) := by omega
      have x2 : bits .and .u8 ((X k : Nat) : Int) 15 = (v : Int) := by
        have := u8_and15 (x := ((X k : Nat) : Int)) (by omega) (by omega)
        rw [this]; omega
      have hi2 := index_hex u (by omega)
      have hi3 := index_hex v (by omega)
      have hu1 : (u : Int) < 16 := by omega
      have hv1 : (v : Int) < 16 := by omega
      clear hu hv
      go_wp2_with fail
      have c1 : wr.cell? ⟨h, 2 * k, none⟩ = some (.int .u8 ((hexTo X k (2 * k) : Nat) : Int)) := (B1.out.cell _).trans (rowArr_get (by omega))
      have c2 : wr.cell? ⟨h, 2 * k + 1, none⟩ = some (.int .u8 ((hexTo X k (2 * k + 1) : Nat) : Int)) := (B1.out.cell _).trans (rowArr_get (by omega))
      have f1 := B1.out.frozen (2 * k)
      have f2 := B1.out.frozen (2 * k + 1)
      go_region
      have B2 := Lib.hid ((B1.out.set_ (2 * k) (.int .u8 ((hexd u : Nat) : Int))).set_ (2 * k + 1) (.int .u8 ((hexd v : Nat) : Int))).drew
      rw [HS.out] at B2
      have L2 := Lib.hid ((L1.out.setCell (p := ⟨h, 2 * k, none⟩) (Nat.le_refl _) (.int .u8 ((hexd u : Nat) : Int))).setCell (p := ⟨h, 2 * k + 1, none⟩) (Nat.le_refl _) (.int .u8 ((hexd v : Nat) : Int))).drew
      clear B1 L1 c1 c2 f1 f2 HS hi1 hi2 hi3 x1 x2
      generalize (((wr.setCell ⟨h, 2 * k, none⟩ (.int .u8 ((hexd u : Nat) : Int))).setCell ⟨h, 2 * k + 1, none⟩ (.int .u8 ((hexd v : Nat) : Int)))).drew = w2 at *
      go_wp2_with fail
      go_roundw
      case rel => exact ⟨k + 1, by omega, by go_num, B2, L2⟩
      case measure => simp [intOf]; omega
    · obtain rfl : k = 32 := by omega
      clear hlt
      have e : rowArr 64 (hexTo X 32) = rowArr 64 (hexB X) := rowArr_congr fun c hc => if_pos (by omega)
      rw [e] at B1
      have hcv := conv_bytes (c := 64) B1.out (X := hexB X) (o := 0) (n := 64) (fun j hj => by rw [Nat.zero_add]; exact rowArr_get hj)
      clear e
      go_wp2_with fail
      go_ret2
      rw [HH.out]
      exact ⟨rfl, L1.out⟩
end Go.Proofs.YtbgfmlfpohehnaaDoor
