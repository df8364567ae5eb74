/-
 '(*sha.state).text' and 'sha.Sum' by contracts. Conditions: the table of roots reads as it was laid; fewer than 2^40 bytes.
-/
import Derived.Test.YtgbehfkimchglaaGreatDoorShaRestM
import Derived.Test.YtgbehfkimchglaaGreatDoorParAddM
import Derived.Test.YtgbehfkimchglaaGreatDoorArrSetM
import Derived.Lib.SlBytesConst
namespace Go.Proofs.YtgbehfkimchglaaGreatDoor
set_option maxRecDepth 100000
open Go Go.RowKit
set_option linter.unusedVariables false
def outTo (s : M.S8) (k j : Nat) : Nat := if j < 4 * k then M.outB s j else 0
theorem outTo_set (s : M.S8) (k : Nat) (hk : k < 8) : ((((rowArr 32 (outTo s k)).setIfInBounds (4 * k) (.int .u8 (((s.get k >>> 24) % 256 : Nat) : Int))).setIfInBounds (4 * k + 1) (.int .u8 (((s.get k >>> 16) % 256 : Nat) : Int))).setIfInBounds (4 * k + 2) (.int .u8 (((s.get k >>> 8) % 256 : Nat) : Int))).setIfInBounds (4 * k + 3) (.int .u8 (((s.get k) % 256 : Nat) : Int)) = rowArr 32 (outTo s (k + 1)) := by
 rw [rowArr_set (by omega), rowArr_set (by omega), rowArr_set (by omega), rowArr_set (by omega)]
 refine rowArr_congr fun c hc => ?_
 unfold outTo M.outB
 by_cases e3 : c = 4 * k + 3
 ·rw [if_pos e3, if_pos (by omega), show c / 4 = k by omega, show 24 - 8 * (c % 4) = 0 by omega]; rfl
 rw [if_neg e3]
 by_cases e2 : c = 4 * k + 2
 ·rw [if_pos e2, if_pos (by omega), show c / 4 = k by omega, show 24 - 8 * (c % 4) = 8 by omega]
 rw [if_neg e2]
 by_cases e1 : c = 4 * k + 1
 ·rw [if_pos e1, if_pos (by omega), show c / 4 = k by omega, show 24 - 8 * (c % 4) = 16 by omega]
 rw [if_neg e1]
 by_cases e0 : c = 4 * k
 ·rw [if_pos e0, if_pos (by omega), show c / 4 = k by omega, show 24 - 8 * (c % 4) = 24 by omega]
 rw [if_neg e0]
 by_cases h : c < 4 * k
 ·rw [if_pos h, if_pos (by omega)]
 ·rw [if_neg h, if_neg (by omega)]
theorem zero_out (w : World) : (Sem.run Tryz.prog (zeroValue 256) w) = .ok (.agg (rowArr 32 fun _ => 0)) w := by kernel_rfl
theorem byte_shr (x k : Nat) (K : Int) (hK : K = 2 ^ k) : (x : Int) / K % 256 = (((x >>> k) % 256 : Nat) : Int) := by
 subst hK
 rw [Nat.shiftRight_eq_div_pow, Int.natCast_emod, Int.natCast_ediv, Int.natCast_pow]; rfl
set_option maxRecDepth 100000 in
set_option maxHeartbeats 1600000 in
theorem text_any (b : Nat) (s : M.S8) (w : World) (hb : Blk w b 194 (wArr 8 s.get)) :
  Calls Tryz.prog 116 #[.pointer (some ⟨b, 0, none⟩)] w fun e w' => e = .returned (.string (strB 32 (M.outB s))) ∧ Below w.heap.size w w' := by
 have hz := zero_out
 have S0 : Hid (Blk (w.alloc (.cells (rowArr 32 fun _ => 0) 256)) b 194 (wArr 8 s.get)) := Lib.hid (hb.alloc _)
 have B0 : Hid (Blk (w.alloc (.cells (rowArr 32 fun _ => 0) 256)) w.heap.size 256 (rowArr 32 (outTo s 0))) := Lib.hid (Blk.new w _ _)
 have L0 : Hid (Below w.heap.size w (w.alloc (.cells (rowArr 32 fun _ => 0) 256))) := Lib.hid ((Below.refl _ _).alloc (Nat.le_refl _) _)
 have hbl := hb.lt
 clear hb
 go_enter Tryz.func116, Tryz.ntmps116
 go_wp2_with fail
 generalize w.alloc (.cells (rowArr 32 fun _ => 0) 256) = w1 at *
 generalize hh : w.heap.size = h at *
 have HH := Lib.hid hh
 clear hh hz
 go_loopw [4, 5, 7] (fun _ _ x wr => ∃ k : Nat, k ≤ 8 ∧ x = .int .i64 k ∧ Hid (Blk wr h 256 (rowArr 32 (outTo s k))) ∧ Hid (Blk wr b 194 (wArr 8 s.get)) ∧ Hid (Below h w wr)) (fun _ _ x _ => 8 - (intOf x).toNat)
 case atStart => exact ⟨0, by omega, rfl, B0, S0, L0⟩
 case round =>
  obtain ⟨k, hk, rfl, B1, S1, L1⟩ := hrel
  clear B0 S0 L0
  by_cases hlt : k < 8
  ·have i1 : (0 : Int) ≤ (k : Int) := by omega
   have i2 : (k : Int) < 8 := by omega
   have c0 : wr.cell? ⟨b, k, none⟩ = some (.int .u32 ((s.get k : Nat) : Int)) := (S1.out.cell k).trans (wArr_get hlt)
   go_wp2_with fail
   go_quiet (fail)
   have B2 : Hid (Blk (wr.drewN nq) h 256 (rowArr 32 (outTo s k))) := Lib.hid (B1.out.drewN nq)
   have S2 : Hid (Blk (wr.drewN nq) b 194 (wArr 8 s.get)) := Lib.hid (S1.out.drewN nq)
   have L2 : Hid (Below h w (wr.drewN nq)) := Lib.hid (below_drewN L1.out nq)
   clear B1 S1 L1 c0
   generalize wr.drewN nq = w2 at *
   have HS := Lib.hid (outTo_set s k hlt)
   generalize hg : s.get k = x at *
   have c0 : w2.cell? ⟨h, 4 * k, none⟩ = some (.int .u8 ((outTo s k (4 * k) : Nat) : Int)) := (B2.out.cell _).trans (rowArr_get (by omega))
   have c1 : w2.cell? ⟨h, 4 * k + 1, none⟩ = some (.int .u8 ((outTo s k (4 * k + 1) : Nat) : Int)) := (B2.out.cell _).trans (rowArr_get (by omega))
   have c2 : w2.cell? ⟨h, 4 * k + 2, none⟩ = some (.int .u8 ((outTo s k (4 * k + 2) : Nat) : Int)) := (B2.out.cell _).trans (rowArr_get (by omega))
   have c3 : w2.cell? ⟨h, 4 * k + 3, none⟩ = some (.int .u8 ((outTo s k (4 * k + 3) : Nat) : Int)) := (B2.out.cell _).trans (rowArr_get (by omega))
   have f0 := B2.out.frozen (4 * k)
   have f1 := B2.out.frozen (4 * k + 1)
   have f2 := B2.out.frozen (4 * k + 2)
   have f3 := B2.out.frozen (4 * k + 3)
   clear hg
   go_wp2_with fail
   go_roundw
   case rel =>
    rw [byte_shr x 24 16777216 rfl, byte_shr x 16 65536 rfl, byte_shr x 8 256 rfl, show (x : Int) % (256 : Int) = ((x % 256 : Nat) : Int) by omega]
    refine ⟨k + 1, by omega, by go_num, ?_, ?_, ?_⟩
    ·have h5 := (((B2.out.set_ (4 * k) (.int .u8 (((x >>> 24) % 256 : Nat) : Int))).set_ (4 * k + 1) (.int .u8 (((x >>> 16) % 256 : Nat) : Int))).set_ (4 * k + 2) (.int .u8 (((x >>> 8) % 256 : Nat) : Int))).set_ (4 * k + 3) (.int .u8 ((x % 256 : Nat) : Int))
     rw [HS.out] at h5
     exact Lib.hid h5
    ·exact Lib.hid ((((S2.out.far (by simp; omega) _).far (by simp; omega) _).far (by simp; omega) _).far (by simp; omega) _)
    ·exact Lib.hid ((((L2.out.setCell (by simp) _).setCell (by simp) _).setCell (by simp) _).setCell (by simp) _)
   case measure => simp [intOf]; omega
  ·obtain rfl : k = 8 := by omega
   clear hlt
   have e : rowArr 32 (outTo s 8) = rowArr 32 (M.outB s) := rowArr_congr fun c hc => if_pos (by omega)
   rw [e] at B1
   have hcv := conv_bytes (c := 32) B1.out (X := M.outB s) (o := 0) (n := 32) (fun j hj => by rw [Nat.zero_add]; exact rowArr_get hj)
   clear e
   go_wp2_with fail
   go_ret
   rw [HH.out]
   exact ⟨rfl, L1.out⟩
theorem alloc_state (w : World) : (Instr.alloc 194 true (.tuple #[])).run Tryz.prog w = .ok (.pointer (some ⟨w.heap.size, 0, none⟩)) (w.alloc (.cells (wArr 8 fun _ => 0) 194)) := by kernel_rfl
set_option maxRecDepth 100000 in
set_option maxHeartbeats 1600000 in
theorem sum_any (A : Option Addr) (n c B : Nat) (X : Nat → Nat) (w : World) (hx : RdB w B A n X) (hX : ∀ j, X j < 256) (hB : B ≤ w.heap.size) (hnc : n ≤ c) (hcm : c ≤ maxLen) (hn : n ≤ 1099511627776) (hl : Laid w) :
  Calls Tryz.prog 63 #[.slice A n c] w fun e w' => e = .returned (.string (strB 32 (M.sum n X))) ∧ Below w.heap.size w w' := by
 have HX := Lib.hid hx
 have HL := Lib.hid hl
 have hpos := hl.pos
 have HC := Lib.hid hcm
 clear hx hl hcm
 go_enter Tryz.func63, Tryz.ntmps63
 go_wp2_with fail
 refine (begin_any _).mono ?_
 rintro e w1 ⟨rfl, hb1⟩
 have L1 := Lib.hid hb1
 have hz1 := hb1.size
 clear hb1
 go_wp2_with (with_reducible refine wpList_allocX ?_ 194 ?_ _ (alloc_state _) ?_; rfl; rfl; refine of_hid ?_)
 refine Lib.hid ?_
 refine wpList_storeBlk rfl 194 (.tmp 3) (.tmp 4) rfl w1.heap.size (wArr 8 fun _ => 0) (wArr 8 M.init.get) rfl rfl (Blk.new _ _ _) (by rw [wArr_size]; exact isize_state) (by rw [wArr_size, wArr_size]) (wArr_one _ _) ?_
 intro w2 hb2 hg2 hs2
 have B2 := Lib.hid hb2
 have L2 : Hid (Below w.heap.size w w2) := Lib.hid (L1.out.trans (((Below.refl _ _).alloc hz1 _).trans (Only.below hg2 hz1 (by simp; omega))))
 clear hb2 hg2 hs2 L1
 have hb0 : 0 < w1.heap.size := by omega
 have hne : ∀ g o, 0 < n → A = some ⟨g, o, none⟩ → g ≠ w1.heap.size := fun g o hn0 e => by
  obtain ⟨g', o', e2, h2, _⟩ := HX.out 0 hn0
  rw [e] at e2
  injection e2 with e2
  injection e2 with e2 _
  omega
 have HNE := Lib.hid hne
 clear hne
 go_wp2_with fail
 refine (add_any w1.heap.size M.init A n c X B w2 B2.out M.init_ok (HX.out.below L2.out hB) hX (Nat.le_trans hB L2.out.size) HNE.out hnc HC.out (HL.out.below L2.out hpos) hb0).mono ?_
 rintro e w3 ⟨rfl, hb3, ho3⟩
 have B3 := Lib.hid hb3
 have L3 := Lib.hid (L2.out.trans (ho3.below hz1 L2.out.size))
 clear hb3 ho3 B2 L2
 go_wp2_with fail
 refine (rest_any A n c B X w3 (HX.out.below L3.out hB) (Nat.le_trans hB L3.out.size) hnc hn).mono ?_
 rintro e w4 ⟨rfl, hb4, hl4⟩
 have R4 := Lib.hid hb4
 have B4 := Lib.hid (B3.out.below hl4 B3.out.lt)
 have L4 := Lib.hid (L3.out.trans (hl4.mono L3.out.size))
 have hlt : w1.heap.size < w3.heap.size := B3.out.lt
 clear hb4 hl4 B3 L3
 generalize w3.heap.size = g at *
 go_wp2_with fail
 refine (add_any w1.heap.size (M.addB M.init X (n / 64)) (some ⟨g, 0, none⟩) (M.restN n) (M.restN n) (M.rest n X) (g + 1) w4 B4.out (M.addB_ok M.init_ok X _) (rdb_of_blk R4.out (fun j _ => M.rest_lt hX 8 j)) (fun j => M.rest_lt hX 8 j) R4.out.lt (fun g' o' _ e => by injection e with e; injection e with e _; omega) (Nat.le_refl _) (by have := restN_or n; unfold maxLen; omega) (HL.out.below L4.out hpos) hb0).mono ?_
 rintro e w5 ⟨rfl, hb5, ho5⟩
 have B5 := Lib.hid hb5
 have L5 := Lib.hid (L4.out.trans (ho5.below hz1 L4.out.size))
 clear hb5 ho5 B4 L4 R4
 go_wp2_with fail
 refine (text_any w1.heap.size _ w5 B5.out).mono ?_
 rintro e w6 ⟨rfl, hl6⟩
 have L6 := Lib.hid (L5.out.trans (hl6.mono L5.out.size))
 clear hl6 L5
 go_wp2_with fail
 go_ret
 exact ⟨rfl, L6.out⟩
end Go.Proofs.YtgbehfkimchglaaGreatDoor
namespace Go.Proofs.YtgbehfkimchglaaGreatDoor
set_option maxRecDepth 100000
open Go Go.RowKit
set_option linter.unusedVariables false
end Go.Proofs.YtgbehfkimchglaaGreatDoor
namespace Go.Proofs.YtgbehfkimchglaaGreatDoor
set_option maxRecDepth 100000
open Go Go.RowKit
set_option linter.unusedVariables false
end Go.Proofs.YtgbehfkimchglaaGreatDoor
namespace Go.Proofs.YtgbehfkimchglaaGreatDoor
open Go Go.RowKit refRack
set_option maxRecDepth 100000
set_option linter.unusedVariables false
namespace Arr
open Cc
structure FB (B a r f : Nat) (s : RS) (ad n : Nat) (sum : ByteArray) (ga k z : Nat) (gv : Value) (gl : List Nat) (g : Nat) (ra : Nat → Option Addr) (rl rc : Nat → Nat) (x : Nat → Nat → Nat) (w : World) : Prop where
 size : w.heap.size = k
 arr : At B w a r f s
 laid : Laid w
 low : z + 3 < ga ∧ ga < k
 ba : Blk w z 67 #[.pointer (some ⟨a, 0, none⟩)]
 bd : Blk w (z + 1) 3 #[.int .i64 (ad : Int)]
 bs : Blk w (z + 2) 3 #[.int .i64 (n : Int)]
 bu : Blk w (z + 3) 9 #[.string sum]
 bg : Blk w ga 64 #[gv]
 gone : Nr.OwnN w 0 gv gl
 rows : RdR w k (some ⟨g, 0, none⟩) (cost s.nd n) ra rl rc x
structure FI (k C g : Nat) (w0 w : World) : Prop where
 sub : Below k w0 w
 bc : Blk w k 189 #[.slice (some ⟨g, 0, none⟩) C C]
 bb : ∃ v, Blk w (k + 1) 76 #[v]
 bo : ∃ v, Blk w (k + 2) 64 #[v]
structure FN (s : RS) (f ad n : Nat) (gl : List Nat) (rl : Nat → Nat) : Prop where
 n1 : 1 ≤ n
 n2 : n ≤ 1024
 hc : ad + cost s.nd n ≤ cells s f
 good : ∀ i, i < cost s.nd n → (ad + i) % s.nd ∉ gl → rl i = 128
section
variable {B a r f : Nat} {s : RS} {ad n : Nat} {sum : ByteArray} {ga k z : Nat} {gv : Value} {gl : List Nat} {g : Nat} {ra : Nat → Option Addr} {rl rc : Nat → Nat} {x : Nat → Nat → Nat} {w w' w0 : World} {C : Nat}
end
theorem getD_lt {l : List Nat} (h : ∀ y ∈ l, y < 256) (j : Nat) : l.getD j 0 < 256 := by
 rw [List.getD_eq_getElem?_getD]
 by_cases hj : j < l.length
 ·rw [List.getElem?_eq_getElem hj]
  exact h _ (List.getElem_mem hj)
 ·rw [List.getElem?_eq_none (by omega)]
  simp
end Arr
end Go.Proofs.YtgbehfkimchglaaGreatDoor
namespace Go.Proofs.YtgbehfkimchglaaGreatDoor
open Go Go.RowKit refRack
set_option maxRecDepth 100000
set_option linter.unusedVariables false
namespace Arr
open Cc
section
variable {B a r f : Nat} {s : RS} {ad n : Nat} {sum : ByteArray} {ga k z : Nat} {gv : Value} {gl : List Nat} {g : Nat} {ra : Nat → Option Addr} {rl rc : Nat → Nat} {x : Nat → Nat → Nat} {w w' w0 : World} {C : Nat}
end
end Arr
end Go.Proofs.YtgbehfkimchglaaGreatDoor
namespace Go.Proofs.YtgbehfkimchglaaGreatDoor
open Go Go.RowKit refRack
set_option maxRecDepth 100000
set_option linter.unusedVariables false
namespace Arr
open Cc
section
variable {B a r f : Nat} {s : RS} {w w' : World}
end
end Arr
end Go.Proofs.YtgbehfkimchglaaGreatDoor
namespace Go.Proofs.YtgbehfkimchglaaGreatDoor
open Go Go.RowKit refRack
set_option maxRecDepth 100000
set_option linter.unusedVariables false
namespace Arr
open Cc
section
variable {N n ad : Nat} {l : List Nat} {x : Nat → Nat → Nat} {X : Nat → Nat} (hN : 5 ≤ N) (hN2 : N ≤ 16) (h1 : 1 ≤ n) (hl : l.length ≤ 3) (hX : ∀ j, j < n → X j < 256) (hx : ∀ i, i < cost N n → (ad + i) % N ∉ l → ∀ v, v < 128 → x i v = cellX N n X i v)
include hN hN2 h1 hl hX hx
end
end Arr
end Go.Proofs.YtgbehfkimchglaaGreatDoor
namespace Go.Proofs.YtgbehfkimchglaaGreatDoor
open Go Go.RowKit refRack
set_option maxRecDepth 100000
set_option linter.unusedVariables false
namespace Arr
open Cc
def sumS (n : Nat) (X : Nat → Nat) : ByteArray := strB 32 (M.sum n X)
section
variable {B a r f : Nat} {s : RS} {w w' : World}
end
end Arr
end Go.Proofs.YtgbehfkimchglaaGreatDoor
namespace Go.Proofs.YtgbehfkimchglaaGreatDoor
open Go Go.RowKit refRack
set_option maxRecDepth 100000
set_option linter.unusedVariables false
namespace Arr
open Cc
end Arr
end Go.Proofs.YtgbehfkimchglaaGreatDoor
namespace Go.Proofs.YtgbehfkimchglaaGreatDoor
open Go Go.Proofs Go.RowKit Go.Shelf Go.Sort refRack
set_option maxRecDepth 100000
set_option linter.unusedVariables false
namespace Arr
open Cc
section
variable {B a r f : Nat} {s : RS} {w w' : World}
end
end Arr
end Go.Proofs.YtgbehfkimchglaaGreatDoor
namespace Go.Proofs.YtgbehfkimchglaaGreatDoor
open Go Go.RowKit refRack
set_option maxRecDepth 100000
set_option linter.unusedVariables false
namespace Arr
open Cc
section
variable {B a r f : Nat} {s : RS} {w w' : World}
end
end Arr
end Go.Proofs.YtgbehfkimchglaaGreatDoor
namespace Go.Proofs.YtgbehfkimchglaaGreatDoor
open Go Go.RowKit refRack
set_option maxRecDepth 100000
set_option linter.unusedVariables false
namespace Arr
open Cc
def abc (j : Nat) : Nat := if j = 0 then 97 else if j = 1 then 98 else if j = 2 then 99 else 0
theorem abc_str : strB 3 abc = ⟨#[97, 98, 99]⟩ := by decide
theorem goneB_none {s : RS} {ad n : Nat} (h : ∀ d, s.gone d = false) : goneB s ad n = [] := by
 unfold goneB goneL
 simp [h]
end Arr
end Go.Proofs.YtgbehfkimchglaaGreatDoor
namespace Go.Proofs.YtgbehfkimchglaaGreatDoor
open Go Go.RowKit refRack
set_option maxRecDepth 100000
set_option linter.unusedVariables false
namespace Arr
section
variable {B a r f : Nat} {w w' : World} {s s' : RS}
end
end Arr
end Go.Proofs.YtgbehfkimchglaaGreatDoor
namespace Go.Proofs.YtgbehfkimchglaaGreatDoor
open Go Go.RowKit refRack
set_option maxRecDepth 100000
set_option linter.unusedVariables false
namespace Arr
theorem cost_room {N n : Nat} (hN : 5 ≤ N) (hN2 : N ≤ 16) (h1 : 1 ≤ n) (hn : n ≤ 1024) : cost N n ≤ 32 ∧ 1 ≤ cost N n ∧ cost N n ≤ N * 7 := by
 have hs := secs_le hn
 have hp := secs_pos h1
 have hr := rws_le hN hp
 have h3 := (rws_spec hN hp).2.2
 unfold cost
 generalize rws N (secs n) = R at *
 generalize secs n = d at *
 refine ⟨by omega, by omega, ?_⟩
 have : R ≤ 4 := by
  rcases Nat.lt_or_ge 4 R with h | h
  ·have : 4 * 2 ≤ (R - 1) * (N - 3) := Nat.mul_le_mul (by omega) (by omega)
   omega
  ·exact h
 omega
end Arr
end Go.Proofs.YtgbehfkimchglaaGreatDoor
