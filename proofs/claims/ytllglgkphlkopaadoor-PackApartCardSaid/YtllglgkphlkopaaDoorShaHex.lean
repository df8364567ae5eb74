/-
  'sha.Digits' by contracts: 32 bytes are told, what hasn't 32 is refused. No conditions beyond those.
-/
import Derived.Test.YtllglgkphlkopaaDoorShaText
import Derived.Test.YtllglgkphlkopaaDoorOwn8
namespace Go.Proofs.YtllglgkphlkopaaDoor
open Go Go.RowKit
set_option linter.unusedVariables false

def hexd (x : Nat) : Nat := if x < 10 then 48 + x else 87 + x
def hexB (X : Nat → Nat) (j : Nat) : Nat := if j % 2 = 0 then hexd (X (j / 2) / 16) else hexd (X (j / 2) % 16)
theorem hexd_lt {x : Nat} (h : x < 16) : hexd x < 256 := by unfold hexd; split <;> omega
theorem hexB_lt {X : Nat → Nat} (hX : ∀ j, X j < 256) (j : Nat) : hexB X j < 256 := by
  unfold hexB
  have := hX (j / 2)
  split
  · exact hexd_lt (by omega)
  · exact hexd_lt (by omega)
def hexTo (X : Nat → Nat) (k j : Nat) : Nat := if j < 2 * k then hexB X j else 0
theorem hexTo_set (X : Nat → Nat) (k : Nat) (hk : k < 32) : ((rowArr 64 (hexTo X k)).setIfInBounds (2 * k) (.int .u8 ((hexd (X k / 16) : Nat) : Int))).setIfInBounds (2 * k + 1) (.int .u8 ((hexd (X k % 16) : Nat) : Int)) = rowArr 64 (hexTo X (k + 1)) := by
  rw [rowArr_set (by omega), rowArr_set (by omega)]
  refine rowArr_congr fun c hc => ?_
  unfold hexTo hexB
  by_cases e1 : c = 2 * k + 1
  · have h2 : c / 2 = k := by omega
    have h3 : c < 2 * (k + 1) := by omega
    have h4 : ¬ c % 2 = 0 := by omega
    rw [if_pos e1, h2, if_pos h3, if_neg h4]
  rw [if_neg e1]
  by_cases e0 : c = 2 * k
  · have h2 : c / 2 = k := by omega
    have h3 : c < 2 * (k + 1) := by omega
    have h4 : c % 2 = 0 := by omega
    rw [if_pos e0, h2, if_pos h3, if_pos h4]
  rw [if_neg e0]
  by_cases h : c < 2 * k
  · rw [if_pos h, if_pos (show c < 2 * (k + 1) by omega)]
  · rw [if_neg h, if_neg (show ¬ c < 2 * (k + 1) by omega)]
theorem strB_getElem (n : Nat) (X : Nat → Nat) (k : Nat) (hk : k < n) (hX : X k < 256) (h : k < (strB n X).size) : ((strB n X)[k]'h).toNat = X k := by
  have e : (strB n X).data.toList[k]? = some (UInt8.ofNat (X k)) := by rw [strB_data]; simp [hk]
  have e2 : (strB n X).data[k]? = some (UInt8.ofNat (X k)) := by rw [← Array.getElem?_toList]; exact e
  have e3 : (strB n X)[k]'h = UInt8.ofNat (X k) := by
    have := Array.getElem?_eq_some_iff.1 e2
    exact this.2
  rw [e3, UInt8.toNat_ofNat']
  omega
/-- 's[k]' -/
theorem index_str (n : Nat) (X : Nat → Nat) (k : Nat) (hk : k < n) (hX : X k < 256) (K : IntKind) (w : World) : (Instr.index 9 (.string (strB n X)) (.int K (k : Int))).run Tryd.prog w = .ok (.int .u8 ((X k : Nat) : Int)) w := by
  have hs := strB_size n X
  have h : k < (strB n X).size := by omega
  have := strB_getElem n X k hk hX h
  simp [Instr.index, run_underlying Tryd.underlying9, asIntOf, Sem.run_bind, h, this]
theorem hexS_is : ({ data := #[48, 49, 50, 51, 52, 53, 54, 55, 56, 57, 97, 98, 99, 100, 101, 102] } : ByteArray) = strB 16 hexd := by kernel_rfl
theorem index_hex (y : Nat) (hy : y < 16) (w : World) : (Instr.index 9 (.string { data := #[48, 49, 50, 51, 52, 53, 54, 55, 56, 57, 97, 98, 99, 100, 101, 102] }) (.int .u8 (y : Int))).run Tryd.prog w = .ok (.int .u8 ((hexd y : Nat) : Int)) w := by
  rw [hexS_is]
  exact index_str 16 hexd y hy (hexd_lt hy) .u8 w
end Go.Proofs.YtllglgkphlkopaaDoor
