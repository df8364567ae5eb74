/-
  'hoardlaw01.bytes' by a contract, rows of bytes and their texts. Conditions: numbers that fit an int.
-/
import Derived.Test.YtlbmeaioiiflkaaRackCrash
import Derived.Laws.BytesArg
namespace Go.Proofs.Ytlbmeaioiiflkaa
open Go.RowKit
set_option linter.unusedVariables false

/-- byte j of the bytes by number f -/
def bv (n : Nat) (f : Int) (j : Nat) : Nat := if 1 < n ∧ j = 0 then (f.tdiv 256 % 256).toNat else if 1 < n ∧ j = 1 then (f.tdiv 65536 % 256).toNat else ((f + j) % 256).toNat
theorem bv_lt (n : Nat) (f : Int) (j : Nat) : bv n f j < 256 := by
  unfold bv
  split
  · omega
  · split <;> omega
theorem byte_of (x : Int) : wrap64 x % 256 = ((x % 256).toNat : Int) := by
  unfold wrap64
  omega
theorem byte_of' (x : Int) : IntKind.u8.wrap x = ((x % 256).toNat : Int) := by
  rw [IntKind.wrap_u8]
  omega
def bvTo (k : Nat) (f : Int) (j : Nat) : Nat := if j < k then ((f + j) % 256).toNat else 0

set_option maxRecDepth 100000 in
set_option maxHeartbeats 800000 in
theorem bytes_any (f m : Int) (n : Nat) (w : World) (hf : -9223372036854775808 ≤ f ∧ f ≤ 9223372036854775807) (hm : -200 ≤ m ∧ m ≤ 200) (hn : n = (128 + m).toNat) :
    Calls Try.prog 18 #[.int .i64 f, .int .i64 m] w fun e w' => e = .returned (.slice (some ⟨w.heap.size, 0, none⟩) n n) ∧ Blk w' w.heap.size 5 (rowArr n (bv n f)) ∧ Below w.heap.size w w' := by
  obtain ⟨hf1, hf2⟩ := hf
  obtain ⟨hm1, hm2⟩ := hm
  have hn400 : n ≤ 400 := by omega
  have h2 := Lib.hid (show f.tdiv 256 % 256 = f.tdiv 256 % 256 from rfl)
  by_cases hpos : 0 ≤ 128 + m
  rotate_left
  · have hn0 : n = 0 := by omega
    subst hn0
    have hmk := fun W => make_bytes 0 (by omega) W (0 : Int) rfl
    have B0 : Hid (Blk (w.alloc (.cells (rowArr 0 fun _ => 0) 5)) w.heap.size 5 (rowArr 0 (bv 0 f))) := Lib.hid (Blk.new w 5 _)
    have L0 : Hid (Below w.heap.size w (w.alloc (.cells (rowArr 0 fun _ => 0) 5))) := Lib.hid ((Below.refl _ _).alloc (Nat.le_refl _) _)
    clear hn
    go_enter Try.func18, Try.ntmps18
    go_wp2_with fail
    generalize w.alloc (.cells (rowArr 0 fun _ => 0) 5) = w1 at *
    clear hmk
    go_loop [6] (fun x => x = .int .i64 0) (fun _ => 0)
    case atStart => rfl
    case round =>
      subst hrel
      go_wp2_with fail
      go_ret
      exact ⟨rfl, B0.out, L0.out⟩
  have hmk := fun W => make_bytes n (by omega) W (128 + m) (by omega)
  have B0 : Hid (Blk (w.alloc (.cells (rowArr n fun _ => 0) 5)) w.heap.size 5 (rowArr n (bvTo 0 f))) := by
    have h := Blk.new w 5 (rowArr n fun _ => 0)
    exact h
  have L0 : Hid (Below w.heap.size w (w.alloc (.cells (rowArr n fun _ => 0) 5))) := Lib.hid ((Below.refl _ _).alloc (Nat.le_refl _) _)
  have HN := Lib.hid hn
  clear hn
  go_enter Try.func18, Try.ntmps18
  go_wp2_with fail
  generalize w.alloc (.cells (rowArr n fun _ => 0) 5) = w1 at *
  generalize hh : w.heap.size = h at *
  have HH := Lib.hid hh
  clear hh
  clear hmk
  go_loopw [6] (fun x wr => ∃ k : Nat, k ≤ n ∧ x = .int .i64 k ∧ Hid (Blk wr h 5 (rowArr n (bvTo k f))) ∧ Hid (Below h w wr)) (fun x _ => n - (intOf x).toNat)
  case atStart => exact ⟨0, by omega, rfl, B0, L0⟩
  case round =>
    obtain ⟨k, hk, rfl, B1, L1⟩ := hrel
    clear B0 L0
    by_cases hlt : k < n
    · have c1 : wr.cell? ⟨h, k, none⟩ = some (.int .u8 ((bvTo k f k : Nat) : Int)) := by rw [B1.out.cell, rowArr_get hlt]
      have f1 := B1.out.frozen k
      have i1 : (0 : Int) ≤ (k : Int) := by omega
      have i2 : (k : Int) < (n : Int) := by omega
      have B2 := B1.out.set_ k (.int .u8 (((((f + k) % 256).toNat : Nat)) : Int))
      rw [rowArr_set hlt] at B2
      have B3 : Hid (Blk (wr.setCell ⟨h, k, none⟩ (.int .u8 ((((f + k) % 256).toNat : Nat) : Int))) h 5 (rowArr n (bvTo (k + 1) f))) := by
        have e : rowArr n (fun j => if j = k then ((f + k) % 256).toNat else bvTo k f j) = rowArr n (bvTo (k + 1) f) := rowArr_congr fun c hc => by
          unfold bvTo
          by_cases e : c = k
          · subst e; rw [if_pos rfl, if_pos (by omega)]
          · rw [if_neg e]
            by_cases e2 : c < k
            · rw [if_pos e2, if_pos (by omega)]
            · rw [if_neg e2, if_neg (by omega)]
        rw [← e]
        exact B2
      have L3 := Lib.hid (L1.out.setCell (p := ⟨h, k, none⟩) (Nat.le_refl _) (.int .u8 ((((f + k) % 256).toNat : Nat) : Int)))
      have HE := Lib.hid (byte_of (f + k))
      clear B1 L1 B2
      go_wp2_with fail
      rw [HE.out]
      go_roundw
      case rel => exact ⟨k + 1, by omega, by go_num, B3, L3⟩
      case measure => simp [intOf]; omega
    · have e : k = n := by omega
      subst e
      by_cases h1 : 1 < k
      · have c0 : wr.cell? ⟨h, 0, none⟩ = some (.int .u8 ((bvTo k f 0 : Nat) : Int)) := by rw [B1.out.cell, rowArr_get (by omega)]
        have c1 : wr.cell? ⟨h, 1, none⟩ = some (.int .u8 ((bvTo k f 1 : Nat) : Int)) := by rw [B1.out.cell, rowArr_get (by omega)]
        have f0 := B1.out.frozen 0
        have f1 := B1.out.frozen 1
        have i2 : (1 : Int) < (k : Int) := by omega
        have i3 : (0 : Int) < (k : Int) := by omega
        have i4 : 1 < k := by omega
        have B2 := (B1.out.set_ 0 (.int .u8 (((f.tdiv 256 % 256).toNat : Nat) : Int))).set_ 1 (.int .u8 (((f.tdiv 65536 % 256).toNat : Nat) : Int))
        rw [rowArr_set (by omega), rowArr_set (by omega)] at B2
        have e : rowArr k (bv k f) = rowArr k (fun j => if j = 1 then (f.tdiv 65536 % 256).toNat else if j = 0 then (f.tdiv 256 % 256).toNat else bvTo k f j) := rowArr_congr fun c hc => by
          unfold bvTo bv
          by_cases e0 : c = 0
          · subst e0; rw [if_pos ⟨h1, rfl⟩, if_neg (by omega), if_pos rfl]
          · by_cases e1 : c = 1
            · subst e1; rw [if_neg (by omega), if_pos ⟨h1, rfl⟩, if_pos rfl]
            · rw [if_neg (by omega), if_neg (by omega), if_neg e1, if_neg e0, if_pos hc]
        rw [← e] at B2
        have n0 : (((f.tdiv 256 % 256).toNat : Nat) : Int) = f.tdiv 256 % 256 := Int.toNat_of_nonneg (by omega)
        have n1 : (((f.tdiv 65536 % 256).toNat : Nat) : Int) = f.tdiv 65536 % 256 := Int.toNat_of_nonneg (by omega)
        have L2 := ((L1.out.setCell (p := ⟨h, 0, none⟩) (Nat.le_refl _) (.int .u8 (((f.tdiv 256 % 256).toNat : Nat) : Int))).setCell (p := ⟨h, 1, none⟩) (Nat.le_refl _) (.int .u8 (((f.tdiv 65536 % 256).toNat : Nat) : Int)))
        rw [n0, n1] at B2 L2
        have B3 := Lib.hid B2
        have L3 := Lib.hid L2
        clear B1 L1 B2 L2 e h1 n0 n1
        go_wp2_with fail
        go_ret
        rw [HH.out]
        exact ⟨rfl, B3.out, L3.out⟩
      · have B2 : Hid (Blk wr h 5 (rowArr k (bv k f))) := by
          have e : rowArr k (bv k f) = rowArr k (bvTo k f) := rowArr_congr fun c hc => by
            unfold bvTo bv
            rw [if_neg (by omega), if_neg (by omega), if_pos hc]
          show Blk _ _ _ _
          rw [e]
          exact B1.out
        go_wp2_with fail
        go_ret
        rw [HH.out]
        exact ⟨rfl, B2.out, L1.out⟩
end Go.Proofs.Ytlbmeaioiiflkaa
