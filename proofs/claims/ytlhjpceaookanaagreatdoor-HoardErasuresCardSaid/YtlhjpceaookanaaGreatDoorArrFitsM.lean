/-
  '(*sha.state).text' and 'sha.Sum' by contracts. Conditions: the table of roots reads as it was laid; fewer than 2^40 bytes.
-/
import Derived.Test.YtlhjpceaookanaaGreatDoorShaRestM
import Derived.Test.YtlhjpceaookanaaGreatDoorOwn8
import Derived.Test.YtlhjpceaookanaaGreatDoorArrSetM
namespace Go.Proofs.YtlhjpceaookanaaGreatDoor
set_option maxRecDepth 100000
open Go Go.RowKit
set_option linter.unusedVariables false

def outTo (s : M.S8) (k j : Nat) : Nat := if j < 4 * k then M.outB s j else 0
theorem outTo_set (s : M.S8) (k : Nat) (hk : k < 8) : ((((rowArr 32 (outTo s k)).setIfInBounds (4 * k) (.int .u8 (((s.get k >>> 24) % 256 : Nat) : Int))).setIfInBounds (4 * k + 1) (.int .u8 (((s.get k >>> 16) % 256 : Nat) : Int))).setIfInBounds (4 * k + 2) (.int .u8 (((s.get k >>> 8) % 256 : Nat) : Int))).setIfInBounds (4 * k + 3) (.int .u8 (((s.get k) % 256 : Nat) : Int)) = rowArr 32 (outTo s (k + 1)) := by
  rw [rowArr_set (by omega), rowArr_set (by omega), rowArr_set (by omega), rowArr_set (by omega)]
  refine rowArr_congr fun c hc => ?_
  unfold outTo M.outB
  by_cases e3 : c = 4 * k + 3
  · rw [if_pos e3, if_pos (by omega), show c / 4 = k by omega, show 24 - 8 * (c % 4) = 0 by omega]; rfl
  rw [if_neg e3]
  by_cases e2 : c = 4 * k + 2
  · rw [if_pos e2, if_pos (by omega), show c / 4 = k by omega, show 24 - 8 * (c % 4) = 8 by omega]
  rw [if_neg e2]
  by_cases e1 : c = 4 * k + 1
  · rw [if_pos e1, if_pos (by omega), show c / 4 = k by omega, show 24 - 8 * (c % 4) = 16 by omega]
  rw [if_neg e1]
  by_cases e0 : c = 4 * k
  · rw [if_pos e0, if_pos (by omega), show c / 4 = k by omega, show 24 - 8 * (c % 4) = 24 by omega]
  rw [if_neg e0]
  by_cases h : c < 4 * k
  · rw [if_pos h, if_pos (by omega)]
  · rw [if_neg h, if_neg (by omega)]
theorem zero_out (w : World) : (Sem.run Tryz.prog (zeroValue 122) w) = .ok (.agg (rowArr 32 fun _ => 0)) w := by kernel_rfl
theorem byte_shr (x k : Nat) (K : Int) (hK : K = 2 ^ k) : (x : Int) / K % 256 = (((x >>> k) % 256 : Nat) : Int) := by
  subst hK
  rw [Nat.shiftRight_eq_div_pow, Int.natCast_emod, Int.natCast_ediv, Int.natCast_pow]; rfl

set_option maxRecDepth 100000 in
set_option maxHeartbeats 1600000 in
theorem text_any (b : Nat) (s : M.S8) (w : World) (hb : Blk w b 99 (wArr 8 s.get)) :
    Calls Tryz.prog 53 #[.pointer (some ⟨b, 0, none⟩)] w fun e w' => e = .returned (.string (strB 32 (M.outB s))) ∧ Below w.heap.size w w' := by
  have hz := zero_out
  have S0 : Hid (Blk (w.alloc (.cells (rowArr 32 fun _ => 0) 122)) b 99 (wArr 8 s.get)) := Lib.hid (hb.alloc _)
  have B0 : Hid (Blk (w.alloc (.cells (rowArr 32 fun _ => 0) 122)) w.heap.size 122 (rowArr 32 (outTo s 0))) := Lib.hid (Blk.new w _ _)
  have L0 : Hid (Below w.heap.size w (w.alloc (.cells (rowArr 32 fun _ => 0) 122))) := Lib.hid ((Below.refl _ _).alloc (Nat.le_refl _) _)
  have hbl := hb.lt
  clear hb
  go_enter Tryz.func53, Tryz.ntmps53
  go_wp2_with fail
  generalize w.alloc (.cells (rowArr 32 fun _ => 0) 122) = w1 at *
  generalize hh : w.heap.size = h at *
  have HH := Lib.hid hh
  clear hh hz
  go_loopw [4, 5, 7] (fun _ _ x wr => ∃ k : Nat, k ≤ 8 ∧ x = .int .i64 k ∧ Hid (Blk wr h 122 (rowArr 32 (outTo s k))) ∧ Hid (Blk wr b 99 (wArr 8 s.get)) ∧ Hid (Below h w wr)) (fun _ _ x _ => 8 - (intOf x).toNat)
  case atStart => exact ⟨0, by omega, rfl, B0, S0, L0⟩
  case round =>
    obtain ⟨k, hk, rfl, B1, S1, L1⟩ := hrel
    clear B0 S0 L0
    by_cases hlt : k < 8
    · have i1 : (0 : Int) ≤ (k : Int) := by omega
      have i2 : (k : Int) < 8 := by omega
      have c0 : wr.cell? ⟨b, k, none⟩ = some (.int .u32 ((s.get k : Nat) : Int)) := (S1.out.cell k).trans (wArr_get hlt)
      go_wp2_with fail
      go_quiet (fail)
      have B2 : Hid (Blk (wr.drewN nq) h 122 (rowArr 32 (outTo s k))) := Lib.hid (B1.out.drewN nq)
      have S2 : Hid (Blk (wr.drewN nq) b 99 (wArr 8 s.get)) := Lib.hid (S1.out.drewN nq)
      have L2 : Hid (Below h w (wr.drewN nq)) := Lib.hid (below_drewN L1.out nq)
      clear B1 S1 L1 c0
      generalize wr.drewN nq = w2 at *
      have HS := Lib.hid (outTo_set s k hlt)
      generalize hg : s.get k = x at *
      have c0 : w2.cell? ⟨h, 4 * k, none⟩ = some (.int .u8 ((outTo s k (4 * k) : Nat) : Int)) := (B2.out.cell _).trans (rowArr_get (by omega))
      have c1 : w2.cell? ⟨h, 4 * k + 1, none⟩ = some (.int .u8 ((outTo s k (4 * k + 1) : Nat) : Int)) := (B2.out.cell _).trans (rowArr_get (by omega))
      have c2 : w2.cell? ⟨h, 4 * k + 2, none⟩ = some (.int .u8 ((outTo s k (4 * k + 2) : Nat) : Int)) := (B2.out.cell _).trans (rowArr_get (by omega))
      have c3 : w2.cell? ⟨h, 4 * k + 3, none⟩ = some (.int .u8 ((outTo s k (4 * k + 3) : Nat) : Int)) := (B2.out.cell _).trans (rowArr_get (by omega))
      have f0 := B2.out.frozen (4 * k)
      have f1 := B2.out.frozen (4 * k + 1)
      have f2 := B2.out.frozen (4 * k + 2)
      have f3 := B2.out.frozen (4 * k + 3)
      clear hg
      go_wp2_with fail
      go_roundw
      case rel =>
        rw [byte_shr x 24 16777216 rfl, byte_shr x 16 65536 rfl, byte_shr x 8 256 rfl, show (x : Int) % (256 : Int) = ((x % 256 : Nat) : Int) by omega]
        refine ⟨k + 1, by omega, by go_num, ?_, ?_, ?_⟩
        · have h5 := (((B2.out.set_ (4 * k) (.int .u8 (((x >>> 24) % 256 : Nat) : Int))).set_ (4 * k + 1) (.int .u8 (((x >>> 16) % 256 : Nat) : Int))).set_ (4 * k + 2) (.int .u8 (((x >>> 8) % 256 : Nat) : Int))).set_ (4 * k + 3) (.int .u8 ((x % 256 : Nat) : Int))
          rw [HS.out] at h5
          exact Lib.hid h5
        · exact Lib.hid ((((S2.out.far (by simp; omega) _).far (by simp; omega) _).far (by simp; omega) _).far (by simp; omega) _)
        · exact Lib.hid ((((L2.out.setCell (by simp) _).setCell (by simp) _).setCell (by simp) _).setCell (by simp) _)
      case measure => simp [intOf]; omega
    · obtain rfl : k = 8 := by omega
      clear hlt
      have e : rowArr 32 (outTo s 8) = rowArr 32 (M.outB s) := rowArr_congr fun c hc => if_pos (by omega)
      rw [e] at B1
      have hcv := conv_bytes (c := 32) B1.out (X := M.outB s) (o := 0) (n := 32) (fun j hj => by rw [Nat.zero_add]; exact rowArr_get hj)
      clear e
      go_wp2_with fail
      go_ret
      rw [HH.out]
      exact ⟨rfl, L1.out⟩

theorem alloc_state (w : World) : (Instr.alloc 99 true (.tuple #[])).run Tryz.prog w = .ok (.pointer (some ⟨w.heap.size, 0, none⟩)) (w.alloc (.cells (wArr 8 fun _ => 0) 99)) := by kernel_rfl

set_option maxRecDepth 100000 in
set_option maxHeartbeats 1600000 in
theorem sum_any (A : Option Addr) (n c B : Nat) (X : Nat → Nat) (w : World) (hx : RdB w B A n X) (hX : ∀ j, X j < 256) (hB : B ≤ w.heap.size) (hnc : n ≤ c) (hcm : c ≤ maxLen) (hn : n ≤ 1099511627776) (hl : Laid w) :
    Calls Tryz.prog 16 #[.slice A n c] w fun e w' => e = .returned (.string (strB 32 (M.sum n X))) ∧ Below w.heap.size w w' := by
  have HX := Lib.hid hx
  have HL := Lib.hid hl
  have hpos := hl.pos
  have HC := Lib.hid hcm
  clear hx hl hcm
  go_enter Tryz.func16, Tryz.ntmps16
  go_wp2_with fail
  refine (begin_any _).mono ?_
  rintro e w1 ⟨rfl, hb1⟩
  have L1 := Lib.hid hb1
  have hz1 := hb1.size
  clear hb1
  go_wp2_with (with_reducible refine wpList_allocX ?_ 99 ?_ _ (alloc_state _) ?_; rfl; rfl; refine of_hid ?_)
  refine Lib.hid ?_
  refine wpList_storeBlk rfl 99 (.tmp 3) (.tmp 4) rfl w1.heap.size (wArr 8 fun _ => 0) (wArr 8 M.init.get) rfl rfl (Blk.new _ _ _) (by rw [wArr_size]; exact isize_state) (by rw [wArr_size, wArr_size]) (wArr_one _ _) ?_
  intro w2 hb2 hg2 hs2
  have B2 := Lib.hid hb2
  have L2 : Hid (Below w.heap.size w w2) := Lib.hid (L1.out.trans (((Below.refl _ _).alloc hz1 _).trans (Only.below hg2 hz1 (by simp; omega))))
  clear hb2 hg2 hs2 L1
  have hb0 : 0 < w1.heap.size := by omega
  have hne : ∀ g o, 0 < n → A = some ⟨g, o, none⟩ → g ≠ w1.heap.size := fun g o hn0 e => by
    obtain ⟨g', o', e2, h2, _⟩ := HX.out 0 hn0
    rw [e] at e2
    injection e2 with e2
    injection e2 with e2 _
    omega
  have HNE := Lib.hid hne
  clear hne
  go_wp2_with fail
  refine (add_any w1.heap.size M.init A n c X B w2 B2.out M.init_ok (HX.out.below L2.out hB) hX (Nat.le_trans hB L2.out.size) HNE.out hnc HC.out (HL.out.below L2.out hpos) hb0).mono ?_
  rintro e w3 ⟨rfl, hb3, ho3⟩
  have B3 := Lib.hid hb3
  have L3 := Lib.hid (L2.out.trans (ho3.below hz1 L2.out.size))
  clear hb3 ho3 B2 L2
  go_wp2_with fail
  refine (rest_any A n c B X w3 (HX.out.below L3.out hB) (Nat.le_trans hB L3.out.size) hnc hn).mono ?_
  rintro e w4 ⟨rfl, hb4, hl4⟩
  have R4 := Lib.hid hb4
  have B4 := Lib.hid (B3.out.below hl4 B3.out.lt)
  have L4 := Lib.hid (L3.out.trans (hl4.mono L3.out.size))
  have hlt : w1.heap.size < w3.heap.size := B3.out.lt
  clear hb4 hl4 B3 L3
  generalize w3.heap.size = g at *
  go_wp2_with fail
  refine (add_any w1.heap.size (M.addB M.init X (n / 64)) (some ⟨g, 0, none⟩) (M.restN n) (M.restN n) (M.rest n X) (g + 1) w4 B4.out (M.addB_ok M.init_ok X _) (rdb_of_blk R4.out (fun j _ => M.rest_lt hX 8 j)) (fun j => M.rest_lt hX 8 j) R4.out.lt (fun g' o' _ e => by injection e with e; injection e with e _; omega) (Nat.le_refl _) (by have := restN_or n; unfold maxLen; omega) (HL.out.below L4.out hpos) hb0).mono ?_
  rintro e w5 ⟨rfl, hb5, ho5⟩
  have B5 := Lib.hid hb5
  have L5 := Lib.hid (L4.out.trans (ho5.below hz1 L4.out.size))
  clear hb5 ho5 B4 L4 R4
  go_wp2_with fail
  refine (text_any w1.heap.size _ w5 B5.out).mono ?_
  rintro e w6 ⟨rfl, hl6⟩
  have L6 := Lib.hid (L5.out.trans (hl6.mono L5.out.size))
  clear hl6 L5
  go_wp2_with fail
  go_ret
  exact ⟨rfl, L6.out⟩
end Go.Proofs.YtlhjpceaookanaaGreatDoor
namespace Go.Proofs.YtlhjpceaookanaaGreatDoor
set_option maxRecDepth 100000
open Go Go.RowKit
set_option linter.unusedVariables false

def hexd (x : Nat) : Nat := if x < 10 then 48 + x else 87 + x
def hexB (X : Nat → Nat) (j : Nat) : Nat := if j % 2 = 0 then hexd (X (j / 2) / 16) else hexd (X (j / 2) % 16)
theorem hexd_lt {x : Nat} (h : x < 16) : hexd x < 256 := by unfold hexd; split <;> omega
theorem hexB_lt {X : Nat → Nat} (hX : ∀ j, X j < 256) (j : Nat) : hexB X j < 256 := by
  unfold hexB
  have := hX (j / 2)
  split
  · exact hexd_lt (by omega)
  · exact hexd_lt (by omega)
def hexTo (X : Nat → Nat) (k j : Nat) : Nat := if j < 2 * k then hexB X j else 0
theorem hexTo_set (X : Nat → Nat) (k : Nat) (hk : k < 32) : ((rowArr 64 (hexTo X k)).setIfInBounds (2 * k) (.int .u8 ((hexd (X k / 16) : Nat) : Int))).setIfInBounds (2 * k + 1) (.int .u8 ((hexd (X k % 16) : Nat) : Int)) = rowArr 64 (hexTo X (k + 1)) := by
  rw [rowArr_set (by omega), rowArr_set (by omega)]
  refine rowArr_congr fun c hc => ?_
  unfold hexTo hexB
  by_cases e1 : c = 2 * k + 1
  · have h2 : c / 2 = k := by omega
    have h3 : c < 2 * (k + 1) := by omega
    have h4 : ¬ c % 2 = 0 := by omega
    rw [if_pos e1, h2, if_pos h3, if_neg h4]
  rw [if_neg e1]
  by_cases e0 : c = 2 * k
  · have h2 : c / 2 = k := by omega
    have h3 : c < 2 * (k + 1) := by omega
    have h4 : c % 2 = 0 := by omega
    rw [if_pos e0, h2, if_pos h3, if_pos h4]
  rw [if_neg e0]
  by_cases h : c < 2 * k
  · rw [if_pos h, if_pos (show c < 2 * (k + 1) by omega)]
  · rw [if_neg h, if_neg (show ¬ c < 2 * (k + 1) by omega)]
theorem strB_getElem (n : Nat) (X : Nat → Nat) (k : Nat) (hk : k < n) (hX : X k < 256) (h : k < (strB n X).size) : ((strB n X)[k]'h).toNat = X k := by
  have e : (strB n X).data.toList[k]? = some (UInt8.ofNat (X k)) := by rw [strB_data]; simp [hk]
  have e2 : (strB n X).data[k]? = some (UInt8.ofNat (X k)) := by rw [← Array.getElem?_toList]; exact e
  have e3 : (strB n X)[k]'h = UInt8.ofNat (X k) := by
    have := Array.getElem?_eq_some_iff.1 e2
    exact this.2
  rw [e3, UInt8.toNat_ofNat']
  omega
/-- 's[k]' -/
theorem index_str (n : Nat) (X : Nat → Nat) (k : Nat) (hk : k < n) (hX : X k < 256) (K : IntKind) (w : World) : (Instr.index 9 (.string (strB n X)) (.int K (k : Int))).run Tryz.prog w = .ok (.int .u8 ((X k : Nat) : Int)) w := by
  have hs := strB_size n X
  have h : k < (strB n X).size := by omega
  have := strB_getElem n X k hk hX h
  simp [Instr.index, run_underlying Tryz.underlying9, asIntOf, Sem.run_bind, h, this]
theorem hexS_is : ({ data := #[48, 49, 50, 51, 52, 53, 54, 55, 56, 57, 97, 98, 99, 100, 101, 102] } : ByteArray) = strB 16 hexd := by kernel_rfl
theorem index_hex (y : Nat) (hy : y < 16) (w : World) : (Instr.index 9 (.string { data := #[48, 49, 50, 51, 52, 53, 54, 55, 56, 57, 97, 98, 99, 100, 101, 102] }) (.int .u8 (y : Int))).run Tryz.prog w = .ok (.int .u8 ((hexd y : Nat) : Int)) w := by
  rw [hexS_is]
  exact index_str 16 hexd y hy (hexd_lt hy) .u8 w
end Go.Proofs.YtlhjpceaookanaaGreatDoor
namespace Go.Proofs.YtlhjpceaookanaaGreatDoor
set_option maxRecDepth 100000
open Go Go.RowKit
set_option linter.unusedVariables false

theorem make_room (n : Nat) (hn : n ≤ 2199023255552) (w : World) (l : Int) (hl : l = (n : Int)) :
    (Instr.makeSlice 36 (.int .i64 0) (.int .i64 l)).run Tryz.prog w = .ok (.slice (some ⟨w.heap.size, 0, none⟩) 0 n) (w.alloc (.cells (rowArr n (fun _ => 0)) 5)) := by
  subst hl
  obtain ⟨i0, hi, hz0, hz1, hz2⟩ := info_parts info_u8
  have h := run_make (P := Tryz.prog) (w := w) 36 5 i0 (.int .u8 0) Tryz.underlying36 hi hz0 .i64 .i64 (0 : Int) (n : Int) (by omega) (by omega) (by rw [hz2]; omega) (by omega)
  rw [h, hz1, Int.toNat_natCast, Nat.mul_one]
  show _ = _
  rw [show (Value.int .u8 0).cells = #[.int .u8 0] from rfl, madeCells_one, replicate_row]
  rfl
theorem make_long (n : Nat) (hn : n ≤ 2199023255552) (w : World) (l : Int) (hl : l = (n : Int)) :
    (Instr.makeSlice 36 (.int .i64 l) (.int .i64 l)).run Tryz.prog w = .ok (.slice (some ⟨w.heap.size, 0, none⟩) n n) (w.alloc (.cells (rowArr n (fun _ => 0)) 5)) := by
  subst hl
  obtain ⟨i0, hi, hz0, hz1, hz2⟩ := info_parts info_u8
  have h := run_make (P := Tryz.prog) (w := w) 36 5 i0 (.int .u8 0) Tryz.underlying36 hi hz0 .i64 .i64 (n : Int) (n : Int) (by omega) (by omega) (by rw [hz2]; omega) (by omega)
  rw [h, hz1, Int.toNat_natCast, Nat.mul_one]
  show _ = _
  rw [show (Value.int .u8 0).cells = #[.int .u8 0] from rfl, madeCells_one, replicate_row]
/-- an append to the call's own row turns nothing that was there -/
theorem own_grown {w0 w w' : World} {base n : Nat} {v : Value} {X : Nat → Nat} (hb : Below base w0 w) (ho : Own8 w base v n X) (hg : w.grownBy w' v.ownBlock) (hs : base ≤ w.heap.size) : Below base w0 w' :=
  hb.trans ⟨hg.os, hg.tape, hg.output, hg.size, fun k hk => hg.block k (by omega) (fun e => by have := (ho.lt e.symm).2; omega)⟩

end Go.Proofs.YtlhjpceaookanaaGreatDoor
namespace Go.Proofs.YtlhjpceaookanaaGreatDoor
open Go Go.RowKit refRack
set_option maxRecDepth 100000
set_option linter.unusedVariables false
namespace Arr
open Cc
/-- the drives that are left out -/
def outP (gl p : List Nat) : List Nat := Sq.srt (gl ++ p)
/-- the bytes made again -/
noncomputable def datP (N n ad : Nat) (gl : List Nat) (x : Nat → Nat → Nat) (p : List Nat) : List Nat := (rebL N n ad (outP gl p) x).take n
/-- their sum -/
noncomputable def sumL (l : List Nat) : ByteArray := strB 32 (M.sum l.length (fun j => l.getD j 0))
noncomputable def fitP (N n ad : Nat) (gl : List Nat) (x : Nat → Nat → Nat) (sum : ByteArray) (p : List Nat) : Bool := (sumL (datP N n ad gl x p)).toList == sum.toList
/-- what 'fits' finds in memory below k -/
structure FB (B a r f : Nat) (s : RS) (ad n : Nat) (sum : ByteArray) (ga k z : Nat) (gv : Value) (gl : List Nat) (g : Nat) (ra : Nat → Option Addr) (rl rc : Nat → Nat) (x : Nat → Nat → Nat) (w : World) : Prop where
  size : w.heap.size = k
  arr : At B w a r f s
  laid : Laid w
  low : z + 3 < ga ∧ ga < k
  ba : Blk w z 27 #[.pointer (some ⟨a, 0, none⟩)]
  bd : Blk w (z + 1) 3 #[.int .i64 (ad : Int)]
  bs : Blk w (z + 2) 3 #[.int .i64 (n : Int)]
  bu : Blk w (z + 3) 9 #[.string sum]
  bg : Blk w ga 22 #[gv]
  gone : Nr.OwnN w 0 gv gl
  rows : RdR w k (some ⟨g, 0, none⟩) (cost s.nd n) ra rl rc x
/-- and from k on -/
structure FI (k C g : Nat) (w0 w : World) : Prop where
  sub : Below k w0 w
  bc : Blk w k 77 #[.slice (some ⟨g, 0, none⟩) C C]
  bb : ∃ v, Blk w (k + 1) 36 #[v]
  bo : ∃ v, Blk w (k + 2) 22 #[v]
/-- what it needs of the numbers -/
structure FN (s : RS) (f ad n : Nat) (gl : List Nat) (rl : Nat → Nat) : Prop where
  n1 : 1 ≤ n
  n2 : n ≤ 1024
  hc : ad + cost s.nd n ≤ cells s f
  good : ∀ i, i < cost s.nd n → (ad + i) % s.nd ∉ gl → rl i = 128
section
variable {B a r f : Nat} {s : RS} {ad n : Nat} {sum : ByteArray} {ga k z : Nat} {gv : Value} {gl : List Nat} {g : Nat} {ra : Nat → Option Addr} {rl rc : Nat → Nat} {x : Nat → Nat → Nat} {w w' w0 : World} {C : Nat}
theorem FI.size (h : FI k C g w0 w) : k + 3 ≤ w.heap.size := by
  obtain ⟨v, hv⟩ := h.bo
  have := hv.lt
  omega
theorem FI.keepB (h : FI k C g w0 w) (hb : Below (k + 3) w w') : FI k C g w0 w' := by
  obtain ⟨v1, h1⟩ := h.bb
  obtain ⟨v2, h2⟩ := h.bo
  exact ⟨h.sub.trans (hb.mono (by omega)), h.bc.below hb (by omega), ⟨v1, h1.below hb (by omega)⟩, ⟨v2, h2.below hb (by omega)⟩⟩
theorem FI.grown (h : FI k C g w0 w) (hb : Below w.heap.size w w') : FI k C g w0 w' := h.keepB (hb.mono h.size)
theorem FI.setO (h : FI k C g w0 w) (v : Value) : FI k C g w0 (w.setCell ⟨k + 2, 0, none⟩ v) ∧ Blk (w.setCell ⟨k + 2, 0, none⟩ v) (k + 2) 22 #[v] := by
  obtain ⟨v1, h1⟩ := h.bb
  obtain ⟨v2, h2⟩ := h.bo
  have hb : Below (k + 2) w (w.setCell ⟨k + 2, 0, none⟩ v) := (Below.refl _ _).setCell (p := ⟨k + 2, 0, none⟩) (Nat.le_refl _) v
  have hn : Blk (w.setCell ⟨k + 2, 0, none⟩ v) (k + 2) 22 #[v] := by simpa using h2.set_ 0 v
  exact ⟨⟨h.sub.trans (hb.mono (by omega)), h.bc.below hb (by omega), ⟨v1, h1.below hb (by omega)⟩, ⟨v, hn⟩⟩, hn⟩
theorem FI.setB (h : FI k C g w0 w) (v : Value) : FI k C g w0 (w.setCell ⟨k + 1, 0, none⟩ v) ∧ Blk (w.setCell ⟨k + 1, 0, none⟩ v) (k + 1) 36 #[v] := by
  obtain ⟨v1, h1⟩ := h.bb
  obtain ⟨v2, h2⟩ := h.bo
  have hb : Below (k + 1) w (w.setCell ⟨k + 1, 0, none⟩ v) := (Below.refl _ _).setCell (p := ⟨k + 1, 0, none⟩) (Nat.le_refl _) v
  have hn : Blk (w.setCell ⟨k + 1, 0, none⟩ v) (k + 1) 36 #[v] := by simpa using h1.set_ 0 v
  have hn2 : Blk (w.setCell ⟨k + 1, 0, none⟩ v) (k + 2) 22 #[v2] := (Below.heap_setCell w ⟨k + 1, 0, none⟩ v (k + 2) (by show k + 2 ≠ k + 1; omega)).trans h2
  exact ⟨⟨h.sub.trans (hb.mono (by omega)), h.bc.below hb (by omega), ⟨v, hn⟩, ⟨v2, hn2⟩⟩, hn⟩
theorem FB.at_ (h : FB B a r f s ad n sum ga k z gv gl g ra rl rc x w0) (hb : Below k w0 w) : At B w a r f s := h.arr.grown_ (by rw [h.size]; exact hb)
theorem FB.laid_ (h : FB B a r f s ad n sum ga k z gv gl g ra rl rc x w0) (hb : Below k w0 w) : Laid w := h.laid.below hb (by have := h.low; omega)
theorem FB.gone_ (h : FB B a r f s ad n sum ga k z gv gl g ra rl rc x w0) (hb : Below k w0 w) : Nr.OwnN w 0 gv gl := h.gone.below hb (by rw [h.size]; exact Nat.le_refl _)
end
/-- a byte made again is one -/
theorem rebL_lt {N n ad : Nat} {l : List Nat} {x : Nat → Nat → Nat} (hN : 5 ≤ N) (hN2 : N ≤ 16) (h1 : 1 ≤ n) (hl : l.length ≤ 3) (hx : ∀ i, i < cost N n → (ad + i) % N ∉ l → ∀ v, v < 128 → x i v < 256) : ∀ y ∈ rebL N n ad l x, y < 256 := by
  intro y hy
  unfold rebL joinL at hy
  rw [List.mem_flatMap] at hy
  obtain ⟨q, hq, hy⟩ := hy
  rw [List.mem_range] at hq
  unfold rebR joinL at hy
  rw [List.mem_flatMap] at hy
  obtain ⟨t, ht, hy⟩ := hy
  rw [List.mem_range] at ht
  rw [List.mem_map] at hy
  obtain ⟨v, hv, rfl⟩ := hy
  rw [List.mem_range] at hv
  obtain ⟨g1, g2, g3, g4, g5⟩ := row_cells hN (secs_pos h1) hq
  exact outRow_lt (by omega) (Nat.le_trans (plc_le (by omega)) hl) (fun i hi hb v hv => by
    refine hx (q * N + i) (by unfold cost; omega) ?_ v hv
    simpa [Nat.add_assoc] using hb) ht hv
theorem getD_lt {l : List Nat} (h : ∀ y ∈ l, y < 256) (j : Nat) : l.getD j 0 < 256 := by
  rw [List.getD_eq_getElem?_getD]
  by_cases hj : j < l.length
  · rw [List.getElem?_eq_getElem hj]
    exact h _ (List.getElem_mem hj)
  · rw [List.getElem?_eq_none (by omega)]
    simp
end Arr
end Go.Proofs.YtlhjpceaookanaaGreatDoor
