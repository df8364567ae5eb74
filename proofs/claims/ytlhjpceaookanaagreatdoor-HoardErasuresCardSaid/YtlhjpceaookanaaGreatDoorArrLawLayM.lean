/-
  The law's 'known': a block is read though three drives are lost. No conditions but SHA's table.
-/
import Derived.Test.YtlhjpceaookanaaGreatDoorArrSameM
import Derived.Lib.SlBytesConst
namespace Go.Proofs.YtlhjpceaookanaaGreatDoor
open Go Go.RowKit refRack
set_option maxRecDepth 100000
set_option linter.unusedVariables false
namespace Arr
open Cc
def abc (j : Nat) : Nat := if j = 0 then 97 else if j = 1 then 98 else if j = 2 then 99 else 0
theorem abc_lt (j : Nat) : abc j < 256 := by unfold abc; split <;> (try split) <;> (try split) <;> omega
theorem abc_str : strB 3 abc = ⟨#[97, 98, 99]⟩ := by decide
theorem srt_of {l : List Nat} (h : l.Pairwise fun x y => x ≤ y) : Sq.srt l = l := by
  unfold Sq.srt
  exact List.mergeSort_of_pairwise (h.imp fun h => by simpa using h)
theorem cost_k : cost 5 3 = 4 := by decide
theorem drvL_k : drvL 5 1 (min (cost 5 3) 5) = [1, 2, 3, 4] := by decide
theorem goneB_none {s : RS} {ad n : Nat} (h : ∀ d, s.gone d = false) : goneB s ad n = [] := by
  unfold goneB goneL
  simp [h]
def stK : RS := (((wrAll (RS.new 5 3) 1 1 (cellX 5 3 abc) (cost 5 3)).lost 1).lost 2).lost 4
theorem goneB_k : goneB stK 1 3 = [1, 2, 4] := by
  have hl := (wrAll_like (RS.new 5 3) 1 1 (cellX 5 3 abc) (cost 5 3)).1
  have hn : stK.nd = 5 := hl.nd
  unfold goneB goneL
  rw [hn, drvL_k, srt_of (by decide)]
  have hg : ∀ d, stK.gone d = (decide (d = 4) || decide (d = 2) || decide (d = 1)) := fun d => by
    show (if d = 4 then true else if d = 2 then true else if d = 1 then true else (wrAll (RS.new 5 3) 1 1 (cellX 5 3 abc) (cost 5 3)).gone d) = _
    rw [hl.gone]
    by_cases h4 : d = 4
    · simp [h4]
    · by_cases h2 : d = 2
      · simp [h2]
      · by_cases h1 : d = 1
        · simp [h1]
        · simp [h4, h2, h1]; rfl
  simp [hg]
theorem lose_in {B r : Nat} {s : RS} (w : World) (h : RackAt B w r s) (d : Nat) (hd : d < s.nd) :
    Calls Tryz.prog 21 #[.pointer (some ⟨r, 0, none⟩), .int .i64 (d : Int)] w fun e w' => e = .returned (.int .i64 0) ∧ RackAt B w' r (s.lost d) ∧ Keep B w w' := by
  have h1 : s.isD (d : Int) = true := by rw [isD_nat, decide_eq_true hd]
  have := lose_tot w r s (d : Int) h
  unfold refRack.loseE refRack.loseS at this
  rw [if_pos h1, if_pos h1, Int.toNat_natCast] at this
  exact this
theorem own_conv {w : World} {base gb n c : Nat} {X : Nat → Nat} (h : Gr.OwnG 5 1 csB w base (.slice (some ⟨gb, 0, none⟩) n c) ((List.range n).map X)) (hX : ∀ j, j < n → X j < 256) :
    (convert 36 9 (.slice (some ⟨gb, 0, none⟩) n c)).run Tryz.prog w = .ok (.string (strB n X)) w := by
  have h2 := conv_rd (cap := c) (rdB_own h (by simp) (fun y hy => by
    rw [List.mem_map] at hy
    obtain ⟨j, hj, rfl⟩ := hy
    exact hX j (by simpa using hj)))
  rw [h2]
  congr 2
  exact strB_congr fun j hj => getD_map hj
set_option maxHeartbeats 3200000 in
theorem known_arr (w : World) (hl : Laid w) :
    Calls Tryz.prog 5 #[] w fun e w' => e = .returned (.bool true) ∧ Below w.heap.size w w' := by
  have HL := Lib.hid hl
  have HN : Hid (Calls Tryz.prog 17 #[.int .i64 5, .int .i64 3] w fun e w' => (∃ r, e = .returned (.tuple #[.pointer (some ⟨r, 0, none⟩), .int .i64 0]) ∧ RackAt w.heap.size w' r (RS.new 5 3)) ∧ Keep w.heap.size w w') := Lib.hid (new_any w 5 3 (by decide) (by decide) (by decide) (by decide))
  have hbs : ∀ W : World, (Instr.buildSlice 36 3 #[(0, .int .u8 97), (1, .int .u8 98), (2, .int .u8 99)]).run Tryz.prog W = .ok (.slice (some ⟨W.heap.size, 0, none⟩) 3 3) (W.alloc (.cells #[.int .u8 97, .int .u8 98, .int .u8 99] 5)) := fun W => by kernel_rfl
  have hcv : ∀ W : World, (convert 36 36 (.slice (some ⟨W.heap.size, 0, none⟩) 3 3)).run Tryz.prog (W.alloc (.cells #[.int .u8 97, .int .u8 98, .int .u8 99] 5)) = .ok (.slice (some ⟨W.heap.size, 0, none⟩) 3 3) (W.alloc (.cells #[.int .u8 97, .int .u8 98, .int .u8 99] 5 (3, 4))) := fun W => Lib.run_convert_bytes_const W 36 5 #[.int .u8 97, .int .u8 98, .int .u8 99] 3 3 Tryz.underlying36 Tryz.underlying5
  clear hl
  go_enter Tryz.func5, Tryz.ntmps5
  go_wp2_with fail
  refine HN.out.mono ?_
  rintro e w1 ⟨⟨r, rfl, h1⟩, k1⟩
  have R1 := Lib.hid h1
  have K1 := Lib.hid k1
  have HA : Hid (Calls Tryz.prog 18 #[.pointer (some ⟨r, 0, none⟩), .int .i64 1] w1 fun e w' => e = .returned (.tuple #[.pointer (some ⟨w1.heap.size, 0, none⟩), .int .i64 0]) ∧ w' = w1.alloc (.cells (arrA r 1) 105) ∧ At w.heap.size w' w1.heap.size r 1 (RS.new 5 3) ∧ Keep w.heap.size w1 w') := Lib.hid (new_ok w1 h1 (by decide) (by decide))
  clear h1 k1
  go_wp2_with fail
  refine HA.out.mono ?_
  rintro e w2 ⟨rfl, hw2, hA2, k2⟩
  clear hw2
  generalize w1.heap.size = a at *
  have A2 := Lib.hid hA2
  have K2 := Lib.hid (K1.out.trans k2)
  have HC : Hid (Calls Tryz.prog 19 #[.pointer (some ⟨a, 0, none⟩)] w2 fun e w' => e = .returned (.int .i64 10) ∧ ∃ d, w' = w2.drewN d) := Lib.hid (cells_any w2 hA2)
  clear hA2 k2 HA
  go_wp2_with fail
  refine HC.out.mono ?_
  rintro e w3 ⟨rfl, d, rfl⟩
  have hcv2 : (convert 36 36 (.slice (some ⟨w2.heap.size, 0, none⟩) 3 3)).run Tryz.prog ((w2.drewN d).alloc (.cells #[.int .u8 97, .int .u8 98, .int .u8 99] 5)) = .ok (.slice (some ⟨w2.heap.size, 0, none⟩) 3 3) ((w2.drewN d).alloc (.cells #[.int .u8 97, .int .u8 98, .int .u8 99] 5 (3, 4))) := hcv (w2.drewN d)
  obtain ⟨w3, hw3⟩ : ∃ w3, w3 = (w2.drewN d).alloc (.cells #[.int .u8 97, .int .u8 98, .int .u8 99] 5 (3, 4)) := ⟨_, rfl⟩
  have h3 : At w.heap.size w3 a r 1 (RS.new 5 3) := by rw [hw3]; exact (A2.out.drewN d).alloc _
  have hrd : RdB w3 w3.heap.size (some ⟨w2.heap.size, 0, none⟩) 3 abc := fun j hj => by
    have hb : w3.heap[w2.heap.size]? = some (.cells #[.int .u8 97, .int .u8 98, .int .u8 99] 5 (3, 4)) := by rw [hw3]; exact heap_alloc_new (w2.drewN d) _
    refine ⟨_, 0, rfl, (Array.getElem?_eq_some_iff.1 hb).1, ?_, abc_lt j⟩
    rw [Nat.zero_add, cell_of_row _ _ _ _ _ _ hb]
    rcases (show j = 0 ∨ j = 1 ∨ j = 2 by omega) with rfl | rfl | rfl <;> rfl
  have HW : Hid (Calls Tryz.prog 20 #[.pointer (some ⟨a, 0, none⟩), .int .i64 1, .slice (some ⟨w2.heap.size, 0, none⟩) 3 3] w3 fun e w' => e = .returned (.int .i64 0) ∧ RackAt w.heap.size w' r (wrAll (RS.new 5 3) 1 1 (cellX 5 3 abc) (cost 5 3)) ∧ Keep w.heap.size w3 w') := Lib.hid
    (write_ok _ h3 ⟨rfl, rfl⟩ (some ⟨w2.heap.size, 0, none⟩) 3 3 1 _ abc hrd (fun j _ => abc_lt j) (Nat.le_refl _) (Nat.le_refl _) (by decide) (by decide) (by decide) (by decide) (by rw [goneB_none fun _ => rfl]; decide) (by decide))
  have A3 := Lib.hid h3
  have K3 : Hid (Keep w.heap.size w w3) := Lib.hid (by rw [hw3]; exact (K2.out.drewN d).alloc A2.out.rack.le _)
  have HW3 := Lib.hid hw3
  clear h3 hrd hw3 hcv
  go_wp2_with fail
  rw [← HW3.out]
  clear hcv2 hbs
  refine HW.out.mono ?_
  rintro e w4 ⟨rfl, h4, k4⟩
  have K4 := Lib.hid (K3.out.trans k4)
  have A4 : Hid (At w.heap.size w4 a r 1 (wrAll (RS.new 5 3) 1 1 (cellX 5 3 abc) (cost 5 3))) := Lib.hid (A3.out.rack_ h4 k4 (wrAll_like _ _ _ _ _).1.nd (wrAll_like _ _ _ _ _).1.ns)
  clear h4 k4 HW HC HN K2 K1 R1 A2
  have e4 : (wrAll (RS.new 5 3) 1 1 (cellX 5 3 abc) (cost 5 3)).nd = 5 := (wrAll_like _ _ _ _ _).1.nd
  have HS4 : Hid (Sound (wrAll (RS.new 5 3) 1 1 (cellX 5 3 abc) (cost 5 3)) 1 1 3 abc) := Lib.hid Sound.wrAll
  have HO4 : Hid ((wrAll (RS.new 5 3) 1 1 (cellX 5 3 abc) (cost 5 3)).off = false) := Lib.hid (wrAll_like _ _ _ _ _).1.off
  have HL1 := Lib.hid (lose_in w4 A4.out.rack 1 (by rw [e4]; decide))
  have HK : Hid (stK = (((wrAll (RS.new 5 3) 1 1 (cellX 5 3 abc) (cost 5 3)).lost 1).lost 2).lost 4) := Lib.hid rfl
  have HE4 := Lib.hid e4
  have HNS : Hid ((wrAll (RS.new 5 3) 1 1 (cellX 5 3 abc) (cost 5 3)).ns = 3) := Lib.hid (wrAll_like _ _ _ _ _).1.ns
  clear e4
  generalize wrAll (RS.new 5 3) 1 1 (cellX 5 3 abc) (cost 5 3) = s4 at *
  go_wp2_with fail
  refine HL1.out.mono ?_
  rintro e w5 ⟨rfl, h5, k5⟩
  have K5 := Lib.hid (K4.out.trans k5)
  have A5 : Hid (At w.heap.size w5 a r 1 (s4.lost 1)) := Lib.hid (A4.out.rack_ h5 k5 rfl rfl)
  have HL2 := Lib.hid (lose_in w5 A5.out.rack 2 (by show 2 < s4.nd; rw [HE4.out]; decide))
  clear h5 k5 HL1
  go_wp2_with fail
  refine HL2.out.mono ?_
  rintro e w6 ⟨rfl, h6, k6⟩
  have K6 := Lib.hid (K5.out.trans k6)
  have A6 : Hid (At w.heap.size w6 a r 1 ((s4.lost 1).lost 2)) := Lib.hid (A5.out.rack_ h6 k6 rfl rfl)
  have HL3 := Lib.hid (lose_in w6 A6.out.rack 4 (by show 4 < s4.nd; rw [HE4.out]; decide))
  clear h6 k6 HL2
  go_wp2_with fail
  refine HL3.out.mono ?_
  rintro e w7 ⟨rfl, h7, k7⟩
  have K7 := Lib.hid (K6.out.trans k7)
  have A7 : Hid (At w.heap.size w7 a r 1 stK) := Lib.hid (by rw [HK.out]; exact A6.out.rack_ h7 k7 rfl rfl)
  have HS7 : Hid (Sound stK 1 1 3 abc) := Lib.hid (by rw [HK.out]; exact ((HS4.out.lost 1).lost 2).lost 4)
  have HO7 : Hid (stK.off = false) := Lib.hid (by rw [HK.out]; exact HO4.out)
  have HN7 : Hid (stK.nd = 5 ∧ stK.ns = 3) := Lib.hid (by rw [HK.out]; exact ⟨HE4.out, HNS.out⟩)
  have HSU : Hid (Calls Tryz.prog 11 #[.string ⟨#[97, 98, 99]⟩] w7 fun e w' => e = .returned (.string (sumS 3 abc)) ∧ Below w7.heap.size w7 w') := Lib.hid (by
    have h := sum_law 3 abc w7 abc_lt (by decide) (HL.out.below K7.out.below HL.out.pos)
    rw [abc_str] at h
    exact h)
  clear h7 k7 HL3 HS4 HO4 K6 K5 A6 A5 A4 K4 K3 A3
  go_wp2_with fail
  refine HSU.out.mono ?_
  rintro e w8 ⟨rfl, b8⟩
  have A8 : Hid (At w.heap.size w8 a r 1 stK) := Lib.hid (A7.out.grown_ b8)
  have K8 : Hid (Keep w.heap.size w w8) := Lib.hid (K7.out.new b8 A7.out.rack.le)
  have HRD : Hid (Calls Tryz.prog 10 #[.pointer (some ⟨a, 0, none⟩), .int .i64 1, .int .i64 3, .string (sumS 3 abc)] w8 fun e w' => (∃ gb c ov, e = .returned (.tuple #[.slice (some ⟨gb, 0, none⟩) 3 c, ov, .int .i64 0]) ∧ Gr.OwnG 5 1 csB w' w8.heap.size (.slice (some ⟨gb, 0, none⟩) 3 c) ((List.range 3).map abc) ∧ Nr.OwnN w' w8.heap.size ov (Sq.srt (goneB stK 1 3))) ∧ RackAt w.heap.size w' r stK ∧ Keep w.heap.size w8 w') := Lib.hid
    (read_sound w8 A8.out (HL.out.below K8.out.below HL.out.pos) HL.out.pos HO7.out 1 3 (by decide) (by decide) (by rw [HN7.out.1]; unfold cells; rw [HN7.out.1, HN7.out.2]; decide) abc (fun j _ => abc_lt j) HS7.out (by rw [goneB_k]; decide))
  clear b8 HSU A7 K7
  go_wp2_with fail
  refine HRD.out.mono ?_
  rintro e w9 ⟨⟨gb, c, ov, rfl, hb9, ho9⟩, _, k9⟩
  rw [goneB_k, srt_of (by decide)] at ho9
  have K9 := Lib.hid (K8.out.trans k9)
  have cv := own_conv hb9 (fun j _ => abc_lt j)
  rw [abc_str] at cv
  have hbi : ∀ W : World, (Instr.buildSlice 22 3 #[(0, .int .i64 1), (1, .int .i64 2), (2, .int .i64 4)]).run Tryz.prog W = .ok (.slice (some ⟨W.heap.size, 0, none⟩) 3 3) (W.alloc (.cells #[.int .i64 1, .int .i64 2, .int .i64 4] 3)) := fun W => by kernel_rfl
  have b10 : Below w9.heap.size w9 (w9.alloc (.cells #[.int .i64 1, .int .i64 2, .int .i64 4] 3)) := (Below.refl _ _).alloc (Nat.le_refl _) _
  have x10 := Blk.new w9 3 #[.int .i64 1, .int .i64 2, .int .i64 4]
  have HSA : Hid (Calls Tryz.prog 22 #[ov, .slice (some ⟨w9.heap.size, 0, none⟩) 3 3] (w9.alloc (.cells #[.int .i64 1, .int .i64 2, .int .i64 4] 3)) fun e w' => e = .returned (.bool true) ∧ ∃ d, w' = (w9.alloc (.cells #[.int .i64 1, .int .i64 2, .int .i64 4] 3)).drewN d) := Lib.hid
    (same_any _ ov (.slice (some ⟨w9.heap.size, 0, none⟩) 3 3) [1, 2, 4] [1, 2, 4] (Sq.own_ints (ho9.below b10 (Nat.le_refl _))) (.inr ⟨w9.heap.size, 0, 3, rfl, x10.lt, fun j hj => by
      rw [Nat.zero_add, x10.cell]
      have hj : j < 3 := hj
      rcases (show j = 0 ∨ j = 1 ∨ j = 2 by omega) with rfl | rfl | rfl <;> rfl⟩) (by decide) (by decide))
  have B10 : Hid (Below w.heap.size w (w9.alloc (.cells #[.int .i64 1, .int .i64 2, .int .i64 4] 3))) := Lib.hid (K9.out.below.trans (b10.mono K9.out.below.size))
  clear hb9 ho9 k9 b10 x10 HRD K8 A8
  go_wp2_with fail
  refine HSA.out.mono ?_
  rintro e w10 ⟨rfl, d2, rfl⟩
  go_wp2_with fail
  go_ret
  exact ⟨rfl, below_drewN B10.out d2⟩
end Arr
end Go.Proofs.YtlhjpceaookanaaGreatDoor
namespace Go.Proofs.YtlhjpceaookanaaGreatDoor
open Go Go.RowKit refRack
set_option maxRecDepth 100000
set_option linter.unusedVariables false
namespace Arr
section
variable {B a r f : Nat} {w w' : World} {s s' : RS}
theorem span_size (w : World) (h : At B w a r f s) (A z : Int) (hz : z < 1 ∨ 1024 < z) :
    Calls Tryz.prog 60 #[.pointer (some ⟨a, 0, none⟩), .int .i64 A, .int .i64 z] w fun e w' => e = .returned (.tuple #[.int .i64 0, .int .i64 1]) ∧ w' = w := by
  have HC := Lib.hid (cost_no w h z hz)
  clear h hz
  go_enter Tryz.func60, Tryz.ntmps60
  go_wp2_with fail
  refine HC.out.mono ?_
  rintro e w' ⟨rfl, rfl⟩
  go_wp2_with fail
  go_ret2
  exact ⟨rfl, rfl⟩
theorem span_far (w : World) (h : At B w a r f s) (ad n : Nat) (h1 : 1 ≤ n) (hn : n ≤ 1024) (hc : cells s f < ad + cost s.nd n) (had : ad ≤ 9223372036854775807) :
    Calls Tryz.prog 60 #[.pointer (some ⟨a, 0, none⟩), .int .i64 (ad : Int), .int .i64 (n : Int)] w fun e w' => e = .returned (.tuple #[.int .i64 0, .int .i64 1]) ∧ ∃ d, w' = w.drewN d := by
  have HC := Lib.hid (cost_ok w h n h1 hn)
  have HL := Lib.hid (cells_any w h)
  have hle := cells_le h
  have hcc : cost s.nd n ≤ 100 := by
    have e1 := secs_le hn
    have e2 := rws_le h.five (secs_pos h1)
    unfold cost
    omega
  have t1 : ((ad : Int) < 0) = False := by simp
  have t2 : ((cells s f : Int) - (cost s.nd n : Int) < (ad : Int)) = True := by simp; omega
  have e1 : IntKind.i64.wrap ((cells s f : Int) - (cost s.nd n : Int)) = (cells s f : Int) - (cost s.nd n : Int) := by rw [IntKind.wrap_i64]; omega
  generalize cells s f = C at *
  generalize cost s.nd n = c at *
  clear h
  go_enter Tryz.func60, Tryz.ntmps60
  go_wp2_with fail
  refine HC.out.mono ?_
  rintro e w' ⟨rfl, rfl⟩
  go_wp2_with fail
  refine HL.out.mono ?_
  rintro e w' ⟨rfl, d, rfl⟩
  go_wp2_with fail
  go_ret2
  exact ⟨rfl, d, rfl⟩
theorem drives_size (w : World) (h : At B w a r f s) (A z : Int) (hz : z < 1 ∨ 1024 < z) :
    Calls Tryz.prog 30 #[.pointer (some ⟨a, 0, none⟩), .int .i64 A, .int .i64 z] w fun e w' => e = .returned (.tuple #[.slice none 0 0, .int .i64 1]) ∧ w' = w := by
  have HS := Lib.hid (span_size w h A z hz)
  clear h hz
  go_enter Tryz.func30, Tryz.ntmps30
  go_wp2_with fail
  refine HS.out.mono ?_
  rintro e w' ⟨rfl, rfl⟩
  go_wp2_with fail
  go_ret2
  exact ⟨rfl, rfl⟩
theorem drives_far (w : World) (h : At B w a r f s) (ad n : Nat) (h1 : 1 ≤ n) (hn : n ≤ 1024) (hc : cells s f < ad + cost s.nd n) (had : ad ≤ 9223372036854775807) :
    Calls Tryz.prog 30 #[.pointer (some ⟨a, 0, none⟩), .int .i64 (ad : Int), .int .i64 (n : Int)] w fun e w' => e = .returned (.tuple #[.slice none 0 0, .int .i64 1]) ∧ ∃ d, w' = w.drewN d := by
  have HS := Lib.hid (span_far w h ad n h1 hn hc had)
  clear h hc
  go_enter Tryz.func30, Tryz.ntmps30
  go_wp2_with fail
  refine HS.out.mono ?_
  rintro e w' ⟨rfl, d, rfl⟩
  go_wp2_with fail
  go_ret2
  exact ⟨rfl, d, rfl⟩
end
end Arr
end Go.Proofs.YtlhjpceaookanaaGreatDoor
namespace Go.Proofs.YtlhjpceaookanaaGreatDoor
open Go Go.RowKit refRack
set_option maxRecDepth 100000
set_option linter.unusedVariables false
namespace Arr
theorem strB_extract (n : Nat) (X : Nat → Nat) (i j : Nat) (hij : i ≤ j) (h : j ≤ n) : (strB n X).extract i j = strB (j - i) (fun t => X (i + t)) := by
  apply ByteArray.ext
  apply Array.toList_inj.1
  rw [ByteArray.data_extract, Array.toList_extract, strB_data, strB_data, List.extract_eq_take_drop]
  apply List.ext_getElem?
  intro t
  by_cases ht : t < j - i
  · rw [List.getElem?_take_of_lt ht, List.getElem?_drop, List.getElem?_map, List.getElem?_map, List.getElem?_range (by omega), List.getElem?_range ht]
    rfl
  · rw [List.getElem?_eq_none (by rw [List.length_take]; omega), List.getElem?_eq_none (by simp; omega)]
/-- a text as its bytes -/
def bOf (s : ByteArray) (j : Nat) : Nat := (s.data.toList.getD j 0).toNat
theorem bOf_lt (s : ByteArray) (j : Nat) : bOf s j < 256 := UInt8.toNat_lt _
theorem str_isS (s : ByteArray) : s = strB s.size (bOf s) := by
  apply ByteArray.ext
  apply Array.toList_inj.1
  rw [strB_data]
  apply List.ext_getElem?
  intro t
  have hs : s.data.toList.length = s.size := rfl
  by_cases ht : t < s.size
  · rw [List.getElem?_map, List.getElem?_range ht, List.getElem?_eq_getElem (by omega)]
    unfold bOf
    simp [List.getD_eq_getElem?_getD, ht]
  · rw [List.getElem?_eq_none (by omega), List.getElem?_eq_none (by simp; omega)]
theorem slice_strTo (n : Nat) (X : Nat → Nat) (k : Nat) (L : Int) (hL : L = (k : Int)) (h : k ≤ n) (W : World) : (Instr.sliceAt 9 (.string (strB n X)) none (some (.int .i64 L)) none).run Tryz.prog W = .ok (.string (strB k X)) W := by
  subst hL
  have hs := strB_size n X
  have e := strB_extract n X 0 k (Nat.zero_le _) h
  simp only [Nat.sub_zero, Nat.zero_add] at e
  rw [← e, run_sliceAt_string (P := Tryz.prog) (w := W) (h := Tryz.underlying9)]
  simp [go_sem]
  intro h2
  omega
theorem umod (a : Int) (k : Nat) (hk : 0 < k) (hk2 : k ≤ 1000000) : ∃ n : Nat, wrap64 ((IntKind.u64.wrap a).tmod (k : Int)) = (n : Int) ∧ n < k := by
  have h0 : 0 ≤ IntKind.u64.wrap a := by rw [IntKind.wrap_u64]; omega
  have h1 := Int.tmod_nonneg (k : Int) h0
  have h2 := Int.tmod_lt_of_pos (IntKind.u64.wrap a) (show (0 : Int) < k by omega)
  refine ⟨((IntKind.u64.wrap a).tmod (k : Int)).toNat, ?_, by omega⟩
  generalize (IntKind.u64.wrap a).tmod (k : Int) = y at *
  unfold wrap64
  omega
def layS (N n ad : Nat) (X : Nat → Nat) : RS := (wrAll (RS.new N 9) 2 ad (cellX N n X) (cost N n)).flushed
theorem results_tmp5 {fn : Func} {t u v x y : Tmp} (h : fn.results = #[.tmp t, .tmp u, .tmp v, .tmp x, .tmp y]) (tmps : Array Value) (P : Program) (w : World) :
    (results fn tmps).run P w = .ok (.tuple #[tmps.getD t undef, tmps.getD u undef, tmps.getD v undef, tmps.getD x undef, tmps.getD y undef]) w := by
  simp [results, h]
theorem exX_lt (j : Nat) : 120 < 256 := by decide
def exX (_ : Nat) : Nat := 120
theorem ex_str : (⟨#[120]⟩ : ByteArray) = strB 1 exX := by decide
theorem strB_none (X : Nat → Nat) : (strB 0 X).toList.isEmpty = true := by
  have e : (strB 0 X).toList = (List.range 0).map fun j => UInt8.ofNat (X j) := by rw [ByteArray.toList_eq]; exact strB_data 0 X
  rw [e]
  rfl
theorem strB_some {n : Nat} {X : Nat → Nat} (h : 0 < n) : (strB n X).toList.isEmpty = false := by
  have e : (strB n X).toList = (List.range n).map fun j => UInt8.ofNat (X j) := by rw [ByteArray.toList_eq]; exact strB_data n X
  rw [e]
  cases n with
  | zero => omega
  | succ n => simp [List.range_succ]
theorem cost_room {N n : Nat} (hN : 5 ≤ N) (hN2 : N ≤ 16) (h1 : 1 ≤ n) (hn : n ≤ 1024) : cost N n ≤ 32 ∧ 1 ≤ cost N n ∧ cost N n ≤ N * 7 := by
  have hs := secs_le hn
  have hp := secs_pos h1
  have hr := rws_le hN hp
  have h3 := (rws_spec hN hp).2.2
  unfold cost
  generalize rws N (secs n) = R at *
  generalize secs n = d at *
  refine ⟨by omega, by omega, ?_⟩
  have : R ≤ 4 := by
    rcases Nat.lt_or_ge 4 R with h | h
    · have : 4 * 2 ≤ (R - 1) * (N - 3) := Nat.mul_le_mul (by omega) (by omega)
      omega
    · exact h
  omega
theorem rack_low {B B' r : Nat} {s : RS} {w : World} (h : RackAt B w r s) (hB : B' ≤ B) : RackAt B' w r s := by
  obtain ⟨h0, m1, m2, v, h⟩ := h
  exact ⟨h0, m1, m2, v, h.blk, Nat.le_trans hB h.hr, Nat.le_trans hB h.h1, Nat.le_trans hB h.h2, h.ne, h.last, h.newest, own_base h.row hB⟩
set_option maxHeartbeats 3200000 in
theorem lay_law (w : World) (hpos : 0 < w.heap.size) (dr adr : Int) (D : ByteArray) (fA hA : Option Addr) (fn fc hn hc : Nat) :
    Calls Tryz.prog 6 #[.agg #[.int .i64 dr, .string D, .int .i64 adr, .slice fA fn fc, .slice hA hn hc]] w fun e w' => ∃ r a N n ad X, 5 ≤ N ∧ N ≤ 16 ∧ 1 ≤ n ∧ n ≤ 1024 ∧ (∀ j, X j < 256) ∧ ad + cost N n ≤ N * 7 ∧ e = .returned (.tuple #[.pointer (some ⟨r, 0, none⟩), .pointer (some ⟨a, 0, none⟩), .int .i64 ((ad : Nat) : Int), .string (strB n X), .bool true]) ∧ Arr.At w.heap.size w' a r 2 (layS N n ad X) ∧ Keep w.heap.size w w' := by
  obtain ⟨n0, hat, hn0⟩ := umod dr 12 (by omega) (by omega)
  have hat : wrap64 ((IntKind.u64.wrap dr).tmod 12) = (n0 : Int) := hat
  obtain ⟨N, hN⟩ : ∃ N, N = n0 + 5 := ⟨_, rfl⟩
  have HN : Hid ((5 : Int) + (n0 : Int) = (N : Int)) := Lib.hid (by omega)
  have hN5 : 5 ≤ N := by omega
  have hN16 : N ≤ 16 := by omega
  obtain ⟨wb, hwb⟩ : ∃ wb, wb = w.alloc (.cells #[.int .i64 dr, .string D, .int .i64 adr, .slice fA fn fc, .slice hA hn hc] 24) := ⟨_, rfl⟩
  have hbb : Below w.heap.size w wb := by rw [hwb]; exact (Below.refl _ _).alloc (Nat.le_refl _) _
  have XB : Hid (Blk wb w.heap.size 24 #[.int .i64 dr, .string D, .int .i64 adr, .slice fA fn fc, .slice hA hn hc]) := Lib.hid (by rw [hwb]; exact Blk.new _ _ _)
  have HBB := Lib.hid hbb
  obtain ⟨z, hz⟩ : ∃ z, z = w.heap.size := ⟨_, rfl⟩
  have HZ := Lib.hid hz
  have HWB := Lib.hid hwb
  clear hN hbb hwb hz
  go_enter Tryz.func6, Tryz.ntmps6
  go_wp2_with fail
  rw [HN.out, ← HWB.out, ← HZ.out]
  clear hat
  refine (new_any wb N 9 (by omega) (by omega) (by omega) (by omega)).mono ?_
  rintro e w4 ⟨⟨r, rfl, h4⟩, k4⟩
  have hB : RackAt w.heap.size w4 r (RS.new N 9) := rack_low h4 HBB.out.size
  have HA : Hid (Calls Tryz.prog 18 #[.pointer (some ⟨r, 0, none⟩), .int .i64 2] w4 fun e w' => e = .returned (.tuple #[.pointer (some ⟨w4.heap.size, 0, none⟩), .int .i64 0]) ∧ w' = w4.alloc (.cells (arrA r 2) 105) ∧ At w.heap.size w' w4.heap.size r 2 (RS.new N 9) ∧ Keep w.heap.size w4 w') := Lib.hid (new_ok w4 hB hN5 (by show 2 < 9; decide))
  have K4 : Hid (Keep w.heap.size w w4) := Lib.hid (((Keep.refl w.heap.size w).new HBB.out (Nat.le_refl _)).trans ⟨k4.below.mono HBB.out.size, k4.kept⟩)
  have X4 : Hid (Blk w4 z 24 #[.int .i64 dr, .string D, .int .i64 adr, .slice fA fn fc, .slice hA hn hc]) := Lib.hid (by rw [HZ.out]; exact k4.block XB.out rfl)
  clear h4 k4 hB
  go_wp2_with fail
  refine HA.out.mono ?_
  rintro e w5 ⟨rfl, hw5, hA5, k5⟩
  clear hw5
  generalize w4.heap.size = a at *
  have A5 := Lib.hid hA5
  have K5 := Lib.hid (K4.out.trans k5)
  have X5 : Hid (Blk w5 z 24 #[.int .i64 dr, .string D, .int .i64 adr, .slice fA fn fc, .slice hA hn hc]) := Lib.hid (k5.block X4.out rfl)
  have c1 : w5.cell? ⟨z, 1, none⟩ = some (.string D) := X5.out.cell 1
  obtain ⟨m, hm⟩ : ∃ m, m = min D.size 1024 := ⟨_, rfl⟩
  have hm1 : m ≤ 1024 := by omega
  have t1 : min (D.size : Int) 1024 = (m : Int) := by omega
  have hsl : ∀ W : World, (Instr.sliceAt 9 (.string D) none (some (.int .i64 (m : Int))) none).run Tryz.prog W = .ok (.string (strB m (bOf D))) W := fun W => by
    have h := slice_strTo D.size (bOf D) m m rfl (by omega) W
    rw [← str_isS D] at h
    exact h
  have hsz : (strB m (bOf D)).size = m := strB_size _ _
  clear hA5 k5 HA K4 X4 hm
  by_cases hm0 : m = 0
  · subst hm0
    have he : (strB 0 (bOf D)).toList.isEmpty = true := strB_none _
    go_wp2_with fail
    rw [ex_str]
    have HC : Hid (Calls Tryz.prog 7 #[.pointer (some ⟨a, 0, none⟩), .int .i64 1] w5 fun e w' => e = .returned (.tuple #[.int .i64 ((cost N 1 : Nat) : Int), .int .i64 0]) ∧ w' = w5) := Lib.hid (cost_ok w5 A5.out 1 (by omega) (by omega))
    have hcl : cells (RS.new N 9) 2 = N * 7 := rfl
    have HCL := Lib.hid (cells_any w5 A5.out)
    rw [hcl] at HCL
    have hcc2 : cost N 1 ≤ 32 ∧ 1 ≤ cost N 1 ∧ cost N 1 ≤ N * 7 := cost_room hN5 hN16 (by omega) (by omega)
    obtain ⟨C, hC⟩ : ∃ C, C = N * 7 := ⟨_, rfl⟩
    rw [← hC] at HCL hcc2
    have HCE : Hid (cells (RS.new N 9) 2 = C) := Lib.hid (hcl.trans hC.symm)
    have hC2 : C ≤ 112 := by omega
    obtain ⟨k, hk⟩ : ∃ k, k = C - cost N 1 + 1 := ⟨_, rfl⟩
    obtain ⟨ad, had, hadk⟩ := umod adr k (by omega) (by omega)
    have HAD : Hid (ad + cost N 1 ≤ N * 7) := Lib.hid (by omega)
    have e1 : (C : Int) - ((cost N 1 : Nat) : Int) + 1 = (k : Int) := by omega
    have t2 : ¬ ((C : Int) < ((cost N 1 : Nat) : Int)) := by omega
    have hk1 : 1 ≤ k := by omega
    have hk2 : k ≤ 113 := by omega
    have c2 : w5.cell? ⟨z, 2, none⟩ = some (.int .i64 adr) := X5.out.cell 2
    have HCC := Lib.hid hcc2
    clear hcl hC hk hcc2
    generalize hcg : cost N 1 = c at *
    have HCG := Lib.hid hcg
    clear hcg
    refine HC.out.mono ?_
    rintro e w6 ⟨rfl, hw6⟩
    have hw6 := hw6.symm
    subst hw6
    go_wp2_with fail
    refine HCL.out.mono ?_
    rintro e w6 ⟨rfl, d, rfl⟩
    have A6 : Hid (At w.heap.size (w5.drewN d) a r 2 (RS.new N 9)) := Lib.hid (A5.out.drewN d)
    have K6 : Hid (Keep w.heap.size w (w5.drewN d)) := Lib.hid (K5.out.drewN d)
    have c2 : (w5.drewN d).cell? ⟨z, 2, none⟩ = some (.int .i64 adr) := c2
    clear HCL HC
    generalize w5.drewN d = w6 at *
    have HCL2 := Lib.hid (fun n => cells_any (w6.drewN n) (A6.out.drewN n))
    rw [show cells (RS.new N 9) 2 = C from HCE.out] at HCL2
    go_wp2_with fail
    go_quiet ((go_at_call 19; exact Calls.quiet_of (HCL2.out _)))
    have HXX : Hid (∀ j, exX j < 256) := Lib.hid exX_lt
    go_wp2_with ((with_reducible refine wpList_conv_str rfl (.tmp 81) rfl rfl (fun j _ => HXX.out j) (by unfold maxLen; omega) ?_); intro c7 w7 ho7 hb7; refine of_hid ?_)
    refine Lib.hid ?_
    obtain ⟨A7, q7, e7, h7a, h7b, h7c, _⟩ := ho7.shape (fun j _ => HXX.out j)
    injection e7 with e7 _ e8
    subst e7 e8
    have b7 : Below w6.heap.size w6 w7 := (below_drewN (Below.refl _ _) _).trans hb7
    have hA7 : At w.heap.size w7 a r 2 (RS.new N 9) := A6.out.grown_ b7
    have K7 : Hid (Keep w.heap.size w w7) := Lib.hid (K6.out.new b7 A6.out.rack.le)
    have HW : Hid (Calls Tryz.prog 20 #[.pointer (some ⟨a, 0, none⟩), .int .i64 (ad : Int), .slice (some ⟨w6.heap.size, 0, none⟩) 1 c7] w7 fun e w' => e = .returned (.int .i64 0) ∧ RackAt w.heap.size w' r (wrAll (RS.new N 9) 2 ad (cellX N 1 exX) (cost N 1)) ∧ Keep w.heap.size w7 w') := Lib.hid
      (write_ok w7 hA7 ⟨rfl, rfl⟩ _ 1 c7 ad w7.heap.size exX h7a (fun j _ => HXX.out j) (Nat.le_refl _) h7b h7c (by omega) (by omega) (by have h := HAD.out; have g := HCG.out; show ad + cost N 1 ≤ N * 7; omega) (by rw [goneB_none fun _ => rfl]; exact Nat.zero_le _) (by have g := HCG.out; have h := HAD.out; show 0 + cost N 1 ≤ 1000000; omega))
    have HA7 := Lib.hid hA7
    clear ho7 hb7 h7a h7b h7c b7 hA7
    go_wp2_with fail
    refine HW.out.mono ?_
    rintro e w8 ⟨rfl, h8, k8⟩
    have hl8 := wrAll_like (RS.new N 9) 2 ad (cellX N 1 exX) (cost N 1)
    have HFL := Lib.hid (flush_calm w8 r _ h8 (hl8.1.calm ⟨rfl, rfl⟩))
    have HA8 : Hid (At w.heap.size w8 a r 2 (wrAll (RS.new N 9) 2 ad (cellX N 1 exX) (cost N 1))) := Lib.hid (HA7.out.rack_ h8 k8 hl8.1.nd hl8.1.ns)
    have K8 := Lib.hid (K7.out.trans k8)
    clear h8 k8 hl8 HW
    go_wp2_with fail
    refine HFL.out.mono ?_
    rintro e w9 ⟨rfl, h9, k9⟩
    have HA9 : Hid (At w.heap.size w9 a r 2 (layS N 1 ad exX)) := Lib.hid (HA8.out.rack_ h9 k9 rfl rfl)
    have K9 := Lib.hid (K8.out.trans k9)
    have HAD9 : Hid (ad + cost N 1 ≤ N * 7) := Lib.hid (by have h := HAD.out; have g := HCG.out; omega)
    clear h9 k9 HFL
    go_wp2_with fail
    (try simp only [Exit.inBlock, Exit.then])
    refine bodyPost_ret (results_tmp5 rfl _ _ _) rfl ?_
    exact ⟨r, a, N, 1, ad, exX, hN5, hN16, (by omega), (by omega), HXX.out, HAD9.out, rfl, HA9.out, K9.out⟩
  · have he : (strB m (bOf D)).toList.isEmpty = false := strB_some (by omega)
    go_wp2_with fail
    have HC : Hid (Calls Tryz.prog 7 #[.pointer (some ⟨a, 0, none⟩), .int .i64 (m : Int)] w5 fun e w' => e = .returned (.tuple #[.int .i64 ((cost N m : Nat) : Int), .int .i64 0]) ∧ w' = w5) := Lib.hid (cost_ok w5 A5.out m (by omega) hm1)
    have hcl : cells (RS.new N 9) 2 = N * 7 := rfl
    have HCL := Lib.hid (cells_any w5 A5.out)
    rw [hcl] at HCL
    have hcc2 : cost N m ≤ 32 ∧ 1 ≤ cost N m ∧ cost N m ≤ N * 7 := cost_room hN5 hN16 (by omega) hm1
    obtain ⟨C, hC⟩ : ∃ C, C = N * 7 := ⟨_, rfl⟩
    rw [← hC] at HCL hcc2
    have HCE : Hid (cells (RS.new N 9) 2 = C) := Lib.hid (hcl.trans hC.symm)
    have hC2 : C ≤ 112 := by omega
    obtain ⟨k, hk⟩ : ∃ k, k = C - cost N m + 1 := ⟨_, rfl⟩
    obtain ⟨ad, had, hadk⟩ := umod adr k (by omega) (by omega)
    have HAD : Hid (ad + cost N m ≤ N * 7) := Lib.hid (by omega)
    have e1 : (C : Int) - ((cost N m : Nat) : Int) + 1 = (k : Int) := by omega
    have t2 : ¬ ((C : Int) < ((cost N m : Nat) : Int)) := by omega
    have hk1 : 1 ≤ k := by omega
    have hk2 : k ≤ 113 := by omega
    have c2 : w5.cell? ⟨z, 2, none⟩ = some (.int .i64 adr) := X5.out.cell 2
    have HCC := Lib.hid hcc2
    clear hcl hC hk hcc2
    generalize hcg : cost N m = c at *
    have HCG := Lib.hid hcg
    clear hcg
    refine HC.out.mono ?_
    rintro e w6 ⟨rfl, hw6⟩
    have hw6 := hw6.symm
    subst hw6
    go_wp2_with fail
    refine HCL.out.mono ?_
    rintro e w6 ⟨rfl, d, rfl⟩
    have A6 : Hid (At w.heap.size (w5.drewN d) a r 2 (RS.new N 9)) := Lib.hid (A5.out.drewN d)
    have K6 : Hid (Keep w.heap.size w (w5.drewN d)) := Lib.hid (K5.out.drewN d)
    have c2 : (w5.drewN d).cell? ⟨z, 2, none⟩ = some (.int .i64 adr) := c2
    clear HCL HC
    generalize w5.drewN d = w6 at *
    have HCL2 := Lib.hid (fun n => cells_any (w6.drewN n) (A6.out.drewN n))
    rw [show cells (RS.new N 9) 2 = C from HCE.out] at HCL2
    go_wp2_with fail
    go_quiet ((go_at_call 19; exact Calls.quiet_of (HCL2.out _)))
    have HXX : Hid (∀ j, bOf D j < 256) := Lib.hid (bOf_lt D)
    go_wp2_with ((with_reducible refine wpList_conv_str rfl (.tmp 81) rfl rfl (fun j _ => HXX.out j) (by unfold maxLen; omega) ?_); intro c7 w7 ho7 hb7; refine of_hid ?_)
    refine Lib.hid ?_
    obtain ⟨A7, q7, e7, h7a, h7b, h7c, _⟩ := ho7.shape (fun j _ => HXX.out j)
    injection e7 with e7 _ e8
    subst e7 e8
    have b7 : Below w6.heap.size w6 w7 := (below_drewN (Below.refl _ _) _).trans hb7
    have hA7 : At w.heap.size w7 a r 2 (RS.new N 9) := A6.out.grown_ b7
    have K7 : Hid (Keep w.heap.size w w7) := Lib.hid (K6.out.new b7 A6.out.rack.le)
    have HW : Hid (Calls Tryz.prog 20 #[.pointer (some ⟨a, 0, none⟩), .int .i64 (ad : Int), .slice (some ⟨w6.heap.size, 0, none⟩) m c7] w7 fun e w' => e = .returned (.int .i64 0) ∧ RackAt w.heap.size w' r (wrAll (RS.new N 9) 2 ad (cellX N m (bOf D)) (cost N m)) ∧ Keep w.heap.size w7 w') := Lib.hid
      (write_ok w7 hA7 ⟨rfl, rfl⟩ _ m c7 ad w7.heap.size (bOf D) h7a (fun j _ => HXX.out j) (Nat.le_refl _) h7b h7c (by omega) hm1 (by have h := HAD.out; have g := HCG.out; show ad + cost N m ≤ N * 7; omega) (by rw [goneB_none fun _ => rfl]; exact Nat.zero_le _) (by have g := HCG.out; have h := HAD.out; show 0 + cost N m ≤ 1000000; omega))
    have HA7 := Lib.hid hA7
    clear ho7 hb7 h7a h7b h7c b7 hA7
    go_wp2_with fail
    refine HW.out.mono ?_
    rintro e w8 ⟨rfl, h8, k8⟩
    have hl8 := wrAll_like (RS.new N 9) 2 ad (cellX N m (bOf D)) (cost N m)
    have HFL := Lib.hid (flush_calm w8 r _ h8 (hl8.1.calm ⟨rfl, rfl⟩))
    have HA8 : Hid (At w.heap.size w8 a r 2 (wrAll (RS.new N 9) 2 ad (cellX N m (bOf D)) (cost N m))) := Lib.hid (HA7.out.rack_ h8 k8 hl8.1.nd hl8.1.ns)
    have K8 := Lib.hid (K7.out.trans k8)
    clear h8 k8 hl8 HW
    go_wp2_with fail
    refine HFL.out.mono ?_
    rintro e w9 ⟨rfl, h9, k9⟩
    have HA9 : Hid (At w.heap.size w9 a r 2 (layS N m ad (bOf D))) := Lib.hid (HA8.out.rack_ h9 k9 rfl rfl)
    have K9 := Lib.hid (K8.out.trans k9)
    have HAD9 : Hid (ad + cost N m ≤ N * 7) := Lib.hid (by have h := HAD.out; have g := HCG.out; omega)
    clear h9 k9 HFL
    go_wp2_with fail
    (try simp only [Exit.inBlock, Exit.then])
    refine bodyPost_ret (results_tmp5 rfl _ _ _) rfl ?_
    exact ⟨r, a, N, m, ad, (bOf D), hN5, hN16, (by omega), hm1, HXX.out, HAD9.out, rfl, HA9.out, K9.out⟩
end Arr
end Go.Proofs.YtlhjpceaookanaaGreatDoor
