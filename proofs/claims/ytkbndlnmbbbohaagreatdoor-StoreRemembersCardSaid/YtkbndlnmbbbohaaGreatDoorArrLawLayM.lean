/-
 'array.Read' by a contract. Conditions: the array is one, its power is on, the block's cells are there, the sum has 32 bytes.
-/
import Derived.Test.YtkbndlnmbbbohaaGreatDoorArrFit
import Derived.Lib.SlBytesConst
namespace Go.Proofs.YtkbndlnmbbbohaaGreatDoor
open Go Go.RowKit refRack
set_option maxRecDepth 100000
set_option linter.unusedVariables false
namespace Arr
open Cc
def hereB (s : RS) (ad n : Nat) : List Nat := hereL s (Sq.srt (drvL s.nd ad (min (cost s.nd n) s.nd)))
def heldB (s : RS) (f ad : Nat) (i v : Nat) : Nat := holdsC s f (ad + i) v
noncomputable def fitB (s : RS) (f ad n : Nat) (sum : ByteArray) : List Nat → Bool := fitP s.nd n ad (goneB s ad n) (heldB s f ad) sum
def ReadPost (s : RS) (f ad n : Nat) (sum : ByteArray) (base : Nat) (e : Ending) (w' : World) : Prop :=
 (e = .returned (.tuple #[.slice none 0 0, .slice none 0 0, .int .i64 4]) ∧ (3 < (goneB s ad n).length ∨ ∀ m, m + (goneB s ad n).length ≤ 3 → anyP (fitB s f ad n sum) (hereB s ad n) m [] = false)) ∨
 ∃ m q gb c ov, m + (goneB s ad n).length ≤ 3 ∧ (∀ j, j < m → anyP (fitB s f ad n sum) (hereB s ad n) j [] = false) ∧ fitB s f ad n sum q = true ∧ OkSub (hereB s ad n) m [] q ∧ e = .returned (.tuple #[.slice (some ⟨gb, 0, none⟩) n c, ov, .int .i64 0]) ∧
  Gr.OwnG 5 1 csB w' base (.slice (some ⟨gb, 0, none⟩) n c) (datP s.nd n ad (goneB s ad n) (heldB s f ad) q) ∧ Nr.OwnN w' base ov (outP (goneB s ad n) q)
def RdJ (s : RS) (f ad n k : Nat) (p : List Nat) (W : World) : Prop := (∃ gb c, Blk W (k + 1) 41 #[.slice (some ⟨gb, 0, none⟩) n c] ∧ Gr.OwnG 5 1 csB W (k + 3) (.slice (some ⟨gb, 0, none⟩) n c) (datP s.nd n ad (goneB s ad n) (heldB s f ad) p)) ∧ (∃ ov, Blk W (k + 2) 22 #[ov] ∧ Nr.OwnN W (k + 3) ov (outP (goneB s ad n) p))
theorem ownN_keepK {B base : Nat} {w w' : World} {v : Value} {l : List Nat} (h : Nr.OwnN w base v l) (hk : Keep B w w') : Nr.OwnN w' base v l := by
 refine ⟨h.1, ?_⟩
 rcases h.2 with e | ⟨g, cap, cur, e, h1, h2, h3⟩
 ·exact .inl e
 ·exact .inr ⟨g, cap, cur, e, h1, hk.kept g _ h2 rfl, h3⟩
theorem mem_drvL {N ad m i : Nat} (hN : 0 < N) (hi : i < m) : (ad + i) % N ∈ drvL N ad (min m N) := by
 unfold drvL
 rw [List.mem_map]
 have h1 : i % N < N := Nat.mod_lt _ hN
 have h2 : i % N ≤ i := Nat.mod_le _ _
 refine ⟨i % N, by rw [List.mem_range]; omega, ?_⟩
 rw [Nat.add_mod, Nat.mod_mod, ← Nat.add_mod]
theorem mem_goneB {s : RS} {ad n i : Nat} (hN : 0 < s.nd) (hi : i < cost s.nd n) : (ad + i) % s.nd ∈ goneB s ad n ↔ goneC s (ad + i) = true := by
 unfold goneB goneL
 rw [List.mem_filter, Sq.mem_srt]
 exact ⟨fun h => h.2, fun h => ⟨mem_drvL hN hi, h⟩⟩
theorem lenC_le (s : RS) (c : Nat) : lenC s c ≤ 128 := by unfold lenC; split <;> omega
section
variable {B a r f : Nat} {s : RS} {w w' : World}
set_option maxHeartbeats 6400000 in
theorem readA_any (w : World) (h : At B w a r f s) (hl : Laid w) (hB : 0 < B) (ho : s.off = false) (ad n : Nat) (h1 : 1 ≤ n) (hn : n ≤ 1024) (hc : ad + cost s.nd n ≤ cells s f) (sum : ByteArray) (hs : sum.size = 32) :
  Calls Tryz.prog 44 #[.pointer (some ⟨a, 0, none⟩), .int .i64 (ad : Int), .int .i64 (n : Int), .string sum] w fun e w' => ReadPost s f ad n sum w.heap.size e w' ∧ RackAt B w' r s ∧ Keep B w w' := by
 obtain ⟨z, hz⟩ : ∃ z, z = w.heap.size := ⟨_, rfl⟩
 obtain ⟨w1, hw1⟩ : ∃ w1, w1 = (((w.alloc (.cells #[.pointer (some ⟨a, 0, none⟩)] 29)).alloc (.cells #[.int .i64 (ad : Int)] 3)).alloc (.cells #[.int .i64 (n : Int)] 3)).alloc (.cells #[.string sum] 9) := ⟨_, rfl⟩
 have hb1 : Below w.heap.size w w1 := by
  rw [hw1]
  exact (((((Below.refl _ _).alloc (Nat.le_refl _) _).alloc (by simp) _).alloc (by simp; omega) _).alloc (by simp; omega) _)
 have X0 : Hid (Blk w1 z 29 #[.pointer (some ⟨a, 0, none⟩)]) := Lib.hid (by rw [hw1, hz]; exact (((Blk.new w _ _).alloc _).alloc _).alloc _)
 have X1 : Hid (Blk w1 (z + 1) 3 #[.int .i64 (ad : Int)]) := Lib.hid (by rw [hw1, hz]; simpa using ((Blk.new (w.alloc (.cells #[.pointer (some ⟨a, 0, none⟩)] 29)) 3 #[.int .i64 (ad : Int)]).alloc _).alloc _)
 have X2 : Hid (Blk w1 (z + 2) 3 #[.int .i64 (n : Int)]) := Lib.hid (by rw [hw1, hz]; simpa using (Blk.new ((w.alloc (.cells #[.pointer (some ⟨a, 0, none⟩)] 29)).alloc (.cells #[.int .i64 (ad : Int)] 3)) 3 #[.int .i64 (n : Int)]).alloc _)
 have X3 : Hid (Blk w1 (z + 3) 9 #[.string sum]) := Lib.hid (by rw [hw1, hz]; simpa using (Blk.new (((w.alloc (.cells #[.pointer (some ⟨a, 0, none⟩)] 29)).alloc (.cells #[.int .i64 (ad : Int)] 3)).alloc (.cells #[.int .i64 (n : Int)] 3)) 9 #[.string sum]))
 have hz1 : w1.heap.size = z + 4 := by rw [hw1, hz]; simp
 have HA := Lib.hid h
 have HA1 : Hid (At B w1 a r f s) := Lib.hid (h.grown_ hb1)
 have HLD := Lib.hid hl
 have HB0 := Lib.hid hB
 have HO := Lib.hid ho
 have HC := Lib.hid hc
 have HZ := Lib.hid hz
 have HD := Lib.hid (drives_ok w1 HA1.out ad n h1 hn hc)
 have HL : Hid (∀ d ∈ Sq.srt (drvL s.nd ad (min (cost s.nd n) s.nd)), d < s.nd) := Lib.hid (drv_lt (by have := h.five; omega))
 have HLN : Hid ((Sq.srt (drvL s.nd ad (min (cost s.nd n) s.nd))).length ≤ 16) := Lib.hid (by
  rw [Sq.srt_length, drvL_length]
  have := h.bounds.1
  omega)
 have c0 : w1.cell? ⟨w.heap.size, 0, none⟩ = some (.pointer (some ⟨a, 0, none⟩)) := by rw [← hz]; exact X0.out.cell 0
 have c1 : w1.cell? ⟨w.heap.size + 1, 0, none⟩ = some (.int .i64 (ad : Int)) := by rw [← hz]; exact X1.out.cell 0
 have c2 : w1.cell? ⟨w.heap.size + 1 + 1, 0, none⟩ = some (.int .i64 (n : Int)) := by rw [← hz]; exact X2.out.cell 0
 have HB1 := Lib.hid hb1
 clear h hl hB ho hc
 go_enter Tryz.func44, Tryz.ntmps44
 go_wp2_with fail
 rw [← hw1, ← hz]
 clear c0 c1 c2 hw1 hz
 refine HD.out.mono ?_
 rintro e w2 ⟨v2, rfl, h2, b2⟩
 have hz2 : z + 4 ≤ w2.heap.size := by have := b2.size; omega
 have B2 : Hid (Below w1.heap.size w1 w2) := Lib.hid b2
 have HA2 : Hid (At B w2 a r f s) := Lib.hid (HA1.out.grown_ b2)
 have Y0 : Hid (Blk w2 z 29 #[.pointer (some ⟨a, 0, none⟩)]) := Lib.hid (X0.out.below b2 X0.out.lt)
 have Y1 : Hid (Blk w2 (z + 1) 3 #[.int .i64 (ad : Int)]) := Lib.hid (X1.out.below b2 X1.out.lt)
 have Y2 : Hid (Blk w2 (z + 2) 3 #[.int .i64 (n : Int)]) := Lib.hid (X2.out.below b2 X2.out.lt)
 have Y3 : Hid (Blk w2 (z + 3) 9 #[.string sum]) := Lib.hid (X3.out.below b2 X3.out.lt)
 have HG := Lib.hid (gone_split w2 HA2.out v2 _ (Sq.own_ints h2) HL.out (by have := HLN.out; omega))
 have c0 : w2.cell? ⟨z, 0, none⟩ = some (.pointer (some ⟨a, 0, none⟩)) := Y0.out.cell 0
 have c3 : w2.cell? ⟨z + 1 + 1 + 1, 0, none⟩ = some (.string sum) := Y3.out.cell 0
 clear h2 b2 X0 X1 X2 X3 HA1 HD hb1
 go_wp2_with fail
 refine HG.out.mono ?_
 rintro e w3 ⟨v3, v4, rfl, h3, h4, hne, b3⟩
 have h3 : Nr.OwnN w3 w2.heap.size v3 (goneB s ad n) := h3
 have h4 : Nr.OwnN w3 w2.heap.size v4 (hereB s ad n) := h4
 obtain ⟨A3, c3, rfl⟩ : ∃ A c, v3 = .slice A (goneB s ad n).length c := by
  rcases Nr.own_shape h3 with ⟨rfl, e⟩ | ⟨g, c, rfl, _⟩
  ·exact ⟨none, 0, by rw [e]; rfl⟩
  ·exact ⟨_, _, rfl⟩
 obtain ⟨A4, c4, rfl, h4c⟩ : ∃ A c, v4 = .slice A (hereB s ad n).length c ∧ (hereB s ad n).length ≤ c ∧ c ≤ maxLen := by
  rcases Nr.own_shape h4 with ⟨rfl, e⟩ | ⟨g, c, rfl, _, _, q1, q2, _⟩
  ·exact ⟨none, 0, by rw [e]; rfl, by rw [e]; exact Nat.le_refl _, by simp [maxLen]⟩
  ·exact ⟨_, _, rfl, q1, q2⟩
 have G3 := Lib.hid h3
 have G4 := Lib.hid h4
 have C4 := Lib.hid h4c
 have B3 := Lib.hid b3
 have HA3 : Hid (At B w3 a r f s) := Lib.hid (HA2.out.grown_ b3)
 have Z0 : Hid (Blk w3 z 29 #[.pointer (some ⟨a, 0, none⟩)]) := Lib.hid (Y0.out.below b3 Y0.out.lt)
 have Z1 : Hid (Blk w3 (z + 1) 3 #[.int .i64 (ad : Int)]) := Lib.hid (Y1.out.below b3 Y1.out.lt)
 have Z2 : Hid (Blk w3 (z + 2) 3 #[.int .i64 (n : Int)]) := Lib.hid (Y2.out.below b3 Y2.out.lt)
 have Z3 : Hid (Blk w3 (z + 3) 9 #[.string sum]) := Lib.hid (Y3.out.below b3 Y3.out.lt)
 have hz3 : z + 4 ≤ w3.heap.size := Nat.le_trans hz2 b3.size
 have HGL : Hid ((goneB s ad n).length ≤ 16) := Lib.hid (Nat.le_trans (List.length_filter_le _ _) HLN.out)
 have HHL : Hid ((hereB s ad n).length ≤ 16) := Lib.hid (Nat.le_trans (List.length_filter_le _ _) HLN.out)
 clear h3 h4 h4c b3 hne Y0 Y1 Y2 Y3 HA2 HG c0
 have hgl16 := HGL.out
 generalize hgl : (goneB s ad n).length = gl at *
 generalize hhl : (hereB s ad n).length = hn' at *
 have HGE := Lib.hid hgl
 have HHE := Lib.hid hhl
 clear hgl hhl
 have HB3 : Hid (Below w.heap.size w w3) := Lib.hid (by
  have hb := HB1.out
  have e := hb.size
  exact hb.trans ((B2.out.trans (B3.out.mono B2.out.size)).mono e))
 have HLE := Lib.hid HA.out.rack.le
 by_cases hg3 : 3 < gl
 ·have t1 : (3 : Int) < (gl : Int) := by omega
  go_wp2_with fail
  go_ret3
  have hb4 : Below w.heap.size w (w3.alloc (.cells #[.slice A3 gl c3] 22)) := HB3.out.alloc HB3.out.size _
  refine ⟨.inl ⟨rfl, .inl (by rw [HGE.out]; exact hg3)⟩, HA.out.rack.below hb4, (Keep.refl B w).new hb4 HLE.out⟩
 ·have t1 : ¬ (3 : Int) < (gl : Int) := by omega
  obtain ⟨w4, hw4⟩ : ∃ w4, w4 = w3.alloc (.cells #[.slice A3 gl c3] 22) := ⟨_, rfl⟩
  have hb34 : Below w3.heap.size w3 w4 := by rw [hw4]; exact (Below.refl _ _).alloc (Nat.le_refl _) _
  have W0 : Hid (Blk w4 z 29 #[.pointer (some ⟨a, 0, none⟩)]) := Lib.hid (Z0.out.below hb34 Z0.out.lt)
  have W1 : Hid (Blk w4 (z + 1) 3 #[.int .i64 (ad : Int)]) := Lib.hid (Z1.out.below hb34 Z1.out.lt)
  have W2 : Hid (Blk w4 (z + 2) 3 #[.int .i64 (n : Int)]) := Lib.hid (Z2.out.below hb34 Z2.out.lt)
  have W3 : Hid (Blk w4 (z + 3) 9 #[.string sum]) := Lib.hid (Z3.out.below hb34 Z3.out.lt)
  have W4 : Hid (Blk w4 w3.heap.size 22 #[.slice A3 gl c3]) := Lib.hid (by rw [hw4]; exact Blk.new _ _ _)
  have V3 : Hid (Nr.OwnN w4 w2.heap.size (.slice A3 gl c3) (goneB s ad n)) := Lib.hid (G3.out.below hb34 (Nat.le_refl _))
  have V4 : Hid (Nr.OwnN w4 w2.heap.size (.slice A4 hn' c4) (hereB s ad n)) := Lib.hid (G4.out.below hb34 (Nat.le_refl _))
  have HB4 : Hid (Below w.heap.size w w4) := Lib.hid (HB3.out.trans (hb34.mono HB3.out.size))
  have hz4 : w4.heap.size = w3.heap.size + 1 := by rw [hw4]; simp
  have HA4 : Hid (At B w4 a r f s) := Lib.hid (HA.out.grown_ HB4.out)
  have HCO := Lib.hid (cost_ok w4 HA4.out n h1 hn)
  have hC : cost s.nd n ≤ 100 := by
   have e1 := secs_le hn
   have e2 := rws_le HA.out.five (secs_pos h1)
   unfold cost
   omega
  have HLO := Lib.hid (load_any w4 HA4.out HO.out ad (cost s.nd n) hC HC.out)
  have c0 : (w3.alloc (.cells #[.slice A3 gl c3] 22)).cell? ⟨z, 0, none⟩ = some (.pointer (some ⟨a, 0, none⟩)) := by rw [← hw4]; exact W0.out.cell 0
  have c1 : (w3.alloc (.cells #[.slice A3 gl c3] 22)).cell? ⟨z + 1, 0, none⟩ = some (.int .i64 (ad : Int)) := by rw [← hw4]; exact W1.out.cell 0
  have c2 : (w3.alloc (.cells #[.slice A3 gl c3] 22)).cell? ⟨z + 1 + 1, 0, none⟩ = some (.int .i64 (n : Int)) := by rw [← hw4]; exact W2.out.cell 0
  have d0 : w4.cell? ⟨z, 0, none⟩ = some (.pointer (some ⟨a, 0, none⟩)) := W0.out.cell 0
  have d1 : w4.cell? ⟨z + 1, 0, none⟩ = some (.int .i64 (ad : Int)) := W1.out.cell 0
  have HW4 := Lib.hid hw4
  obtain ⟨ga, hga⟩ : ∃ ga, ga = w3.heap.size := ⟨_, rfl⟩
  clear hw4 hb34 Z0 Z1 Z2 Z3 G3 G4
  go_wp2_with fail
  rw [← HW4.out, ← hga]
  have HGA := Lib.hid hga
  clear hga c0 c1 c2
  refine HCO.out.mono ?_
  rintro e w' ⟨rfl, hw'⟩
  have hw' := hw'.symm
  subst hw'
  go_wp2_with fail
  refine HLO.out.mono ?_
  rintro e w5 ⟨rfl, ⟨H, hL⟩, hR, hK⟩
  have hk45 := hK.below.size
  obtain ⟨k, hk⟩ : ∃ k, k = w5.heap.size := ⟨_, rfl⟩
  have HKW : Hid (Keep B w w5) := Lib.hid (((Keep.refl B w).new HB4.out HLE.out).trans hK)
  have HR5 := Lib.hid hR
  have hga := HGA.out
  have hrow : ∀ i, i < cost s.nd n → RdB w5 w5.heap.size (H i).1 (lenC s (ad + i)) (heldB s f ad i) ∧ (H i).2.1 = lenC s (ad + i) := fun i hi => by
   obtain ⟨e1, e2, _⟩ := owns_rdb (hL.row i hi) (fun j hj => RS.holds_lt HA.out.rack.1 _ _ j (by have := lenC_le s (ad + i); omega))
   exact ⟨e1, e2⟩
  have HFB : Hid (FB B a r f s ad n sum ga k z (.slice A3 gl c3) (goneB s ad n) w4.heap.size (fun i => (H i).1) (fun i => lenC s (ad + i)) (fun i => (H i).2.2) (heldB s f ad) w5) := Lib.hid
   ⟨hk.symm, HA4.out.rack_ hR hK rfl rfl, HLD.out.below (HKW.out.below) HB0.out, ⟨by omega, by omega⟩, hK.block W0.out rfl, hK.block W1.out rfl, hK.block W2.out rfl, hK.block W3.out rfl, hK.block (by rw [hga]; exact W4.out) rfl, ownN_keepK (own_base V3.out (Nat.zero_le _)) hK, fun i hi => by
    obtain ⟨e1, e2⟩ := hrow i hi
    refine ⟨w4.heap.size, 0, rfl, by have := hL.head.lt; omega, ?_, by rw [hk]; exact e1⟩
    rw [Nat.zero_add, hL.head.cell, hdsA_get hi, ← e2]
    rfl⟩
  have HFN : Hid (FN s f ad n (goneB s ad n) (fun i => lenC s (ad + i))) := Lib.hid ⟨h1, hn, HC.out, fun i hi hm => by
   rw [mem_goneB (by have := HA.out.five; omega) hi] at hm
   show lenC s (ad + i) = 128
   unfold lenC
   rw [if_neg hm]⟩
  have V5 : Hid (Nr.OwnN w5 w2.heap.size (.slice A4 hn' c4) (hereB s ad n)) := Lib.hid (ownN_keepK V4.out hK)
  have hfits : FitsC (k + 3) (3 - gl) (FI k (cost s.nd n) w4.heap.size w5) (fitB s f ad n sum) (RdJ s f ad n k)
    #[.pointer (some ⟨ga, 0, none⟩), .pointer (some ⟨k + 1 + 1, 0, none⟩), .pointer (some ⟨z, 0, none⟩), .pointer (some ⟨z + 1, 0, none⟩), .pointer (some ⟨k, 0, none⟩), .pointer (some ⟨z + 1 + 1, 0, none⟩), .pointer (some ⟨k + 1, 0, none⟩), .pointer (some ⟨z + 1 + 1 + 1, 0, none⟩)] :=
   ⟨fun w h => h.size, fun w w' h hb => h.keepB hb, fun w v p hI hv hp => by
    refine (fits_any HFB.out HFN.out w hI v p hv (by rw [HGE.out]; omega)).mono ?_
    rintro e w' ⟨rfl, h2, h3, h4, h5⟩
    exact ⟨rfl, h2, h3, fun _ => ⟨h4, h5⟩⟩⟩
  have HFITS := Lib.hid hfits
  have HSET : Hid (∀ (m : Nat) (W : World), m + gl ≤ 3 → FI k (cost s.nd n) w4.heap.size w5 W → Calls Tryz.prog 81 #[.slice A4 hn' c4, .int .i64 (m : Int), .slice none 0 0, .func (.func 76) #[] #[.pointer (some ⟨ga, 0, none⟩), .pointer (some ⟨k + 1 + 1, 0, none⟩), .pointer (some ⟨z, 0, none⟩), .pointer (some ⟨z + 1, 0, none⟩), .pointer (some ⟨k, 0, none⟩), .pointer (some ⟨z + 1 + 1, 0, none⟩), .pointer (some ⟨k + 1, 0, none⟩), .pointer (some ⟨z + 1 + 1 + 1, 0, none⟩)]] W (SetPost (k + 3) (FI k (cost s.nd n) w4.heap.size w5) (fitB s f ad n sum) (RdJ s f ad n k) (hereB s ad n) m [] (.slice none 0 0) (k + 3) W)) := Lib.hid fun m W hm hI => by
   have h := anySet_any (by omega) HFITS.out m W A4 (hereB s ad n) c4 (.slice none 0 0) [] (k + 3) hI (Nat.le_refl _) hI.size (Gr.OwnG.nil _ _) (by rw [HHE.out]; have := HHL.out; omega) (by rw [HHE.out]; exact C4.out.1) C4.out.2 (by simp; omega) (fun W2 hI2 j y hy => by
    have h := (V5.out.below (B := k) hI2.sub (by rw [hk]; exact Nat.le_refl _))
    rcases Nr.own_shape h with ⟨e, e2⟩ | ⟨g, c, e, _, _, _, _, q⟩
    ·rw [e2] at hy; simp at hy
    ·injection e with e e2 e3
     subst e
     exact ⟨g, 0, rfl, by rw [Nat.zero_add]; exact q j y hy⟩)
   rw [HHE.out] at h
   exact h
  have I5 : Hid (FI k (cost s.nd n) w4.heap.size w5 (((w5.alloc (.cells #[.slice (some ⟨w4.heap.size, 0, none⟩) (cost s.nd n) (cost s.nd n)] 139)).alloc (.cells #[.slice none 0 0] 41)).alloc (.cells #[.slice none 0 0] 22))) := Lib.hid ⟨by
   rw [hk]
   exact (((Below.refl _ _).alloc (Nat.le_refl _) _).alloc (by simp) _).alloc (by simp; omega) _, by rw [hk]; exact ((Blk.new _ _ _).alloc _).alloc _, ⟨_, by
    rw [hk]
    simpa using (Blk.new (w5.alloc (.cells #[.slice (some ⟨w4.heap.size, 0, none⟩) (cost s.nd n) (cost s.nd n)] 139)) 41 #[.slice none 0 0]).alloc (.cells #[.slice none 0 0] 22)⟩, ⟨_, by
    rw [hk]
    simpa using Blk.new ((w5.alloc (.cells #[.slice (some ⟨w4.heap.size, 0, none⟩) (cost s.nd n) (cost s.nd n)] 139)).alloc (.cells #[.slice none 0 0] 41)) 22 #[.slice none 0 0]⟩⟩
  have c0 : (((w5.alloc (.cells #[.slice (some ⟨w4.heap.size, 0, none⟩) (cost s.nd n) (cost s.nd n)] 139)).alloc (.cells #[.slice none 0 0] 41)).alloc (.cells #[.slice none 0 0] 22)).cell? ⟨ga, 0, none⟩ = some (.slice A3 gl c3) := (HFB.out.bg.below I5.out.sub HFB.out.low.2).cell 0
  have HK5 := Lib.hid hk
  clear hL hR hK hrow hfits hk HLO HCO W0 W1 W2 W3 W4 V3 V4 d0 d1 hga hz4 hz1
  have hgl3 : gl ≤ 3 := by omega
  have HN0 : Hid (∀ j, j < 0 → anyP (fitB s f ad n sum) (hereB s ad n) j [] = false) := Lib.hid fun j hj => absurd hj (by omega)
  go_wp2_with fail
  rw [← HK5.out]
  go_loopw [66] (fun y wr => ∃ m : Nat, m ≤ 4 - gl ∧ y = .int .i64 (m : Int) ∧ Hid (FI k (cost s.nd n) w4.heap.size w5 wr) ∧ Hid (∀ j, j < m → anyP (fitB s f ad n sum) (hereB s ad n) j [] = false)) (fun y _ => 4 - gl - (intOf y).toNat)
  case atStart => exact ⟨0, Nat.zero_le _, rfl, I5, HN0⟩
  case round =>
   clear I5 c0 HN0
   obtain ⟨m, hm, rfl, HI, HF⟩ := hrel
   by_cases hlt : m < 4 - gl
   ·have HS := Lib.hid (HSET.out m wr (by omega) HI.out)
    unfold SetPost at HS
    go_wp2_with fail
    refine HS.out.mono ?_
    rintro e w6 ⟨rfl, h6a, h6b, h6c, h6d, h6e⟩
    have I6 := Lib.hid h6a
    have E6 := Lib.hid h6e
    have HK6 := HK5.out
    have HW6 : Hid (RackAt B w6 r s ∧ Keep B w w6) := Lib.hid (by
     have hb : Below w5.heap.size w5 w6 := by rw [← HK6]; exact I6.out.sub
     exact ⟨HR5.out.below hb, HKW.out.new hb HR5.out.le⟩)
    have hwk : w.heap.size ≤ k + 3 := by have := HKW.out.below.size; omega
    have HWK := Lib.hid hwk
    clear h6a h6b h6c h6d h6e HS HK6 hwk
    cases hb : anyP (fitB s f ad n sum) (hereB s ad n) m [] with
    | true =>
     obtain ⟨q, q1, q2, ⟨gb, c, q3, q4⟩, ⟨ov, q5, q6⟩⟩ := E6.out hb
     obtain ⟨oA, on, oc, rfl⟩ : ∃ A4 n4 c4, ov = .slice A4 n4 c4 := by
      rcases Nr.own_shape q6 with ⟨rfl, e⟩ | ⟨g, c, rfl, _⟩
      ·exact ⟨none, 0, 0, rfl⟩
      ·exact ⟨_, _, _, rfl⟩
     have Q := Lib.hid (⟨q1, q2, q4, q6⟩ : _ ∧ _ ∧ _ ∧ _)
     have d1 : w6.cell? ⟨k + 1, 0, none⟩ = some (.slice (some ⟨gb, 0, none⟩) n c) := q3.cell 0
     have d2 : w6.cell? ⟨k + 1 + 1, 0, none⟩ = some (.slice oA on oc) := q5.cell 0
     clear hb q1 q2 q3 q4 q5 q6 E6
     go_wp2_with fail
     go_quiet (fail)
     go_wp2_with fail
     go_ret3
     refine ⟨.inr ⟨m, q, gb, c, .slice oA on oc, by rw [HGE.out]; omega, HF.out, Q.out.1, Q.out.2.1, rfl, ?_, ?_⟩, HW6.out.1.drewN _, HW6.out.2.drewN _⟩
     ·exact own_base (Q.out.2.2.1.keep fun _ _ => rfl) HWK.out
     ·exact own_base (Q.out.2.2.2.keep fun _ _ => rfl) HWK.out
    | false =>
     have HBF := Lib.hid hb
     clear hb
     go_wp2_with fail
     go_roundw
     case rel =>
      refine ⟨m + 1, by omega, by go_num, I6, Lib.hid fun j hj => ?_⟩
      by_cases e : j = m
      ·rw [e]; exact HBF.out
      ·exact HF.out j (by omega)
     case measure => simp [intOf]; omega
   ·obtain rfl : m = 4 - gl := by omega
    have HW6 : Hid (RackAt B wr r s ∧ Keep B w wr) := Lib.hid (by
     have HK6 := HK5.out
     have hb : Below w5.heap.size w5 wr := by rw [← HK6]; exact HI.out.sub
     exact ⟨HR5.out.below hb, HKW.out.new hb HR5.out.le⟩)
    go_wp2_with fail
    go_ret3
    exact ⟨.inl ⟨rfl, .inr fun m hm => HF.out m (by rw [HGE.out] at hm; omega)⟩, HW6.out.1, HW6.out.2⟩
end
end Arr
end Go.Proofs.YtkbndlnmbbbohaaGreatDoor
namespace Go.Proofs.YtkbndlnmbbbohaaGreatDoor
open Go Go.RowKit refRack
set_option maxRecDepth 100000
set_option linter.unusedVariables false
namespace Arr
open Cc
theorem joinL_map (g : Nat → Nat → Nat) : ∀ k, joinL (fun t => (List.range 128).map (g t)) k = (List.range (k * 128)).map (fun j => g (j / 128) (j % 128))
 | 0 => by simp [joinL]
 | k + 1 => by
  rw [joinL_succ, joinL_map g k, Nat.succ_mul, List.range_add, List.map_append, List.map_map]
  congr 1
  refine List.map_congr_left fun v hv => ?_
  have hv : v < 128 := by simpa using hv
  show g k v = g ((k * 128 + v) / 128) ((k * 128 + v) % 128)
  rw [show (k * 128 + v) / 128 = k by omega, show (k * 128 + v) % 128 = v by omega]
def padB (n : Nat) (X : Nat → Nat) (j : Nat) : Nat := if j < n then X j else 0
section
variable {N n ad : Nat} {l : List Nat} {x : Nat → Nat → Nat} {X : Nat → Nat} (hN : 5 ≤ N) (hN2 : N ≤ 16) (h1 : 1 ≤ n) (hl : l.length ≤ 3) (hX : ∀ j, j < n → X j < 256) (hx : ∀ i, i < cost N n → (ad + i) % N ∉ l → ∀ v, v < 128 → x i v = cellX N n X i v)
include hN hN2 h1 hl hX hx
theorem rebR_good {r : Nat} (hr : r < rws N (secs n)) : rebR N n ad l x r = (List.range (kR N (secs n) r * 128)).map (fun j => padB n X (r * (N - 3) * 128 + j)) := by
 obtain ⟨g1, g2, g3, g4, g5⟩ := row_cells hN (secs_pos h1) hr
 unfold rebR
 rw [joinL_congr (M := fun t => (List.range 128).map fun v => padB n X ((r * (N - 3) + t) * 128 + v)) fun t ht => List.map_congr_left fun v hv => ?_, joinL_map]
 ·refine List.map_congr_left fun j hj => ?_
  show padB n X ((r * (N - 3) + j / 128) * 128 + j % 128) = _
  have e : (r * (N - 3) + j / 128) * 128 + j % 128 = r * (N - 3) * 128 + j := by rw [Nat.add_mul]; omega
  rw [e]
 ·have hv : v < 128 := by simpa using hv
  rw [outRow_good (n := 128) (D := fun j v => cellX N n X (r * N + j) v) (by omega) (Nat.le_trans (plc_le (by omega)) hl) (fun i hi v hv => cellX_lt hX _ _) (fun j hj v hv => ?_) (fun i hi hb v hv => ?_) ht hv]
  ·show cellX N n X (r * N + (t + 3)) v = _
   rw [show r * N + (t + 3) = r * N + 3 + t by omega, cellX_data n X v (by omega)]
   rfl
  ·show cellX N n X (r * N + j) v = _
   rw [cellX_par n X v (by omega) hj]
   refine M.xsum_congr fun i hi => ?_
   show M.gmul _ (secD n X (r * (N - 3) + i) v) = M.gmul _ (cellX N n X (r * N + (i + 3)) v)
   rw [show r * N + (i + 3) = r * N + 3 + i by omega, cellX_data n X v (by omega)]
  ·exact hx (r * N + i) (by unfold cost; omega) (by simpa [Nat.add_assoc] using hb) v hv
theorem rebL_good_to : ∀ r, r ≤ rws N (secs n) → (r < rws N (secs n) → joinL (rebR N n ad l x) r = (List.range (r * (N - 3) * 128)).map (padB n X)) ∧ (r = rws N (secs n) → joinL (rebR N n ad l x) r = (List.range (secs n * 128)).map (padB n X))
 | 0, _ => ⟨fun _ => by simp [joinL], fun e => by have := (rws_spec hN (secs_pos h1)).1; omega⟩
 | r + 1, h => by
  have ih := (rebL_good_to r (by omega)).1 (by omega)
  have hy := row_next hN (secs_pos h1) (r := r) (by omega)
  have e := rebR_good hN hN2 h1 hl hX hx (r := r) (by omega)
  have e2 : joinL (rebR N n ad l x) (r + 1) = (List.range (r * (N - 3) * 128 + kR N (secs n) r * 128)).map (padB n X) := by
   rw [joinL_succ, ih, e, List.range_add, List.map_append, List.map_map]
   rfl
  rw [e2, ← Nat.add_mul]
  constructor
  ·intro h2
   rw [if_pos h2] at hy
   rw [hy, Nat.succ_mul]
  ·intro h2
   rw [if_neg (by omega)] at hy
   rw [hy.2]
theorem rebL_good : (rebL N n ad l x).take n = (List.range n).map X := by
 unfold rebL
 rw [(rebL_good_to hN hN2 h1 hl hX hx _ (Nat.le_refl _)).2 rfl, ← List.map_take, List.take_range]
 have := secs_ge n
 rw [Nat.min_eq_left this]
 refine List.map_congr_left fun j hj => ?_
 have hj : j < n := by simpa using hj
 unfold padB
 rw [if_pos hj]
end
end Arr
end Go.Proofs.YtkbndlnmbbbohaaGreatDoor
namespace Go.Proofs.YtkbndlnmbbbohaaGreatDoor
open Go Go.RowKit refRack
set_option maxRecDepth 100000
set_option linter.unusedVariables false
namespace Arr
open Cc
def Sound (s : RS) (f ad n : Nat) (X : Nat → Nat) : Prop := ∀ i, i < cost s.nd n → goneC s (ad + i) = false → ∀ v, v < 128 → holdsC s f (ad + i) v = cellX s.nd n X i v
theorem Sound.wrAll {s : RS} {f ad n : Nat} {X : Nat → Nat} : Sound (wrAll s f ad (cellX s.nd n X) (cost s.nd n)) f ad n X := fun i hi hg v hv => by
 have hl := (wrAll_like s f ad (cellX s.nd n X) (cost s.nd n)).1
 rw [hl.nd] at hi
 rw [hl.goneC] at hg
 rw [wrAll_holds, if_pos ⟨by omega, by omega, hg⟩, hl.nd, show ad + i - ad = i by omega]
def sumS (n : Nat) (X : Nat → Nat) : ByteArray := strB 32 (M.sum n X)
theorem getD_map {n j : Nat} {X : Nat → Nat} (h : j < n) : ((List.range n).map X).getD j 0 = X j := by
 rw [List.getD_eq_getElem?_getD, List.getElem?_map, List.getElem?_range h]
 rfl
theorem sumL_map (n : Nat) (X : Nat → Nat) : sumL ((List.range n).map X) = sumS n X := by
 unfold sumL sumS
 rw [List.length_map, List.length_range]
 exact strB_congr fun j _ => M.sum_congr (fun i hi => getD_map hi) j
theorem datP_sound {s : RS} {f ad n : Nat} {X : Nat → Nat} (h : Sound s f ad n X) (h5 : 5 ≤ s.nd) (h16 : s.nd ≤ 16) (h1 : 1 ≤ n) (hX : ∀ j, j < n → X j < 256) (hg : (goneB s ad n).length ≤ 3) : datP s.nd n ad (goneB s ad n) (heldB s f ad) [] = (List.range n).map X := by
 unfold datP
 have hm : ∀ y, y ∈ outP (goneB s ad n) [] ↔ y ∈ goneB s ad n := fun y => by unfold outP; rw [Sq.mem_srt, List.append_nil]
 refine rebL_good h5 h16 h1 (by unfold outP; rw [Sq.srt_length, List.append_nil]; exact hg) hX fun i hi hb v hv => ?_
 rw [hm, mem_goneB (by omega) hi] at hb
 exact h i hi (by simpa using hb) v hv
theorem fit_sound {s : RS} {f ad n : Nat} {X : Nat → Nat} (h : Sound s f ad n X) (h5 : 5 ≤ s.nd) (h16 : s.nd ≤ 16) (h1 : 1 ≤ n) (hX : ∀ j, j < n → X j < 256) (hg : (goneB s ad n).length ≤ 3) : fitB s f ad n (sumS n X) [] = true := by
 unfold fitB fitP
 rw [datP_sound h h5 h16 h1 hX hg, sumL_map]
 exact beq_self_eq_true _
section
variable {B a r f : Nat} {s : RS} {w w' : World}
theorem read_sound (w : World) (h : At B w a r f s) (hl : Laid w) (hB : 0 < B) (ho : s.off = false) (ad n : Nat) (h1 : 1 ≤ n) (hn : n ≤ 1024) (hc : ad + cost s.nd n ≤ cells s f) (X : Nat → Nat) (hX : ∀ j, j < n → X j < 256) (hs : Sound s f ad n X) (hg : (goneB s ad n).length ≤ 3) :
  Calls Tryz.prog 44 #[.pointer (some ⟨a, 0, none⟩), .int .i64 (ad : Int), .int .i64 (n : Int), .string (sumS n X)] w fun e w' => (∃ gb c ov, e = .returned (.tuple #[.slice (some ⟨gb, 0, none⟩) n c, ov, .int .i64 0]) ∧ Gr.OwnG 5 1 csB w' w.heap.size (.slice (some ⟨gb, 0, none⟩) n c) ((List.range n).map X) ∧ Nr.OwnN w' w.heap.size ov (Sq.srt (goneB s ad n))) ∧ RackAt B w' r s ∧ Keep B w w' := by
 have hf := fit_sound hs h.five h.bounds.1 h1 hX hg
 refine (readA_any w h hl hB ho ad n h1 hn hc (sumS n X) (strB_size _ _)).mono ?_
 rintro e w' ⟨hp, hr, hk⟩
 refine ⟨?_, hr, hk⟩
 have h0 : anyP (fitB s f ad n (sumS n X)) (hereB s ad n) 0 [] = true := by rw [anyP_zero]; exact hf
 rcases hp with ⟨_, h2 | h2⟩ | ⟨m, q, gb, c, ov, h2, h3, h4, h5, rfl, h6, h7⟩
 ·omega
 ·rw [h2 0 (by omega)] at h0; cases h0
 ·have hm : m = 0 := by
   rcases Nat.eq_zero_or_pos m with e | e
   ·exact e
   ·rw [h3 0 e] at h0; cases h0
  subst hm
  obtain ⟨t, e1, e2, _⟩ := h5
  have : t = [] := List.eq_nil_of_length_eq_zero e2
  subst this
  have e1 : q = [] := by simpa using e1
  subst e1
  rw [datP_sound hs h.five h.bounds.1 h1 hX hg] at h6
  unfold outP at h7
  rw [List.append_nil] at h7
  exact ⟨gb, c, ov, rfl, h6, h7⟩
end
end Arr
end Go.Proofs.YtkbndlnmbbbohaaGreatDoor
namespace Go.Proofs.YtkbndlnmbbbohaaGreatDoor
open Go Go.RowKit refRack
set_option maxRecDepth 100000
set_option linter.unusedVariables false
namespace Arr
open Cc
end Arr
end Go.Proofs.YtkbndlnmbbbohaaGreatDoor
namespace Go.Proofs.YtkbndlnmbbbohaaGreatDoor
open Go Go.Proofs Go.RowKit Go.Shelf Go.Sort refRack
set_option maxRecDepth 100000
set_option linter.unusedVariables false
namespace Arr
open Cc
section
variable {B a r f : Nat} {s : RS} {w w' : World}
end
end Arr
end Go.Proofs.YtkbndlnmbbbohaaGreatDoor
namespace Go.Proofs.YtkbndlnmbbbohaaGreatDoor
open Go Go.RowKit refRack
set_option maxRecDepth 100000
set_option linter.unusedVariables false
namespace Arr
open Cc
section
variable {B a r f : Nat} {s : RS} {w w' : World}
end
end Arr
end Go.Proofs.YtkbndlnmbbbohaaGreatDoor
namespace Go.Proofs.YtkbndlnmbbbohaaGreatDoor
open Go Go.RowKit refRack
set_option maxRecDepth 100000
set_option linter.unusedVariables false
namespace Arr
open Cc
def abc (j : Nat) : Nat := if j = 0 then 97 else if j = 1 then 98 else if j = 2 then 99 else 0
theorem abc_str : strB 3 abc = ⟨#[97, 98, 99]⟩ := by decide
theorem goneB_none {s : RS} {ad n : Nat} (h : ∀ d, s.gone d = false) : goneB s ad n = [] := by
 unfold goneB goneL
 simp [h]
end Arr
end Go.Proofs.YtkbndlnmbbbohaaGreatDoor
namespace Go.Proofs.YtkbndlnmbbbohaaGreatDoor
open Go Go.RowKit refRack
set_option maxRecDepth 100000
set_option linter.unusedVariables false
namespace Arr
section
variable {B a r f : Nat} {w w' : World} {s s' : RS}
end
end Arr
end Go.Proofs.YtkbndlnmbbbohaaGreatDoor
namespace Go.Proofs.YtkbndlnmbbbohaaGreatDoor
open Go Go.RowKit refRack
set_option maxRecDepth 100000
set_option linter.unusedVariables false
namespace Arr
theorem cost_room {N n : Nat} (hN : 5 ≤ N) (hN2 : N ≤ 16) (h1 : 1 ≤ n) (hn : n ≤ 1024) : cost N n ≤ 32 ∧ 1 ≤ cost N n ∧ cost N n ≤ N * 7 := by
 have hs := secs_le hn
 have hp := secs_pos h1
 have hr := rws_le hN hp
 have h3 := (rws_spec hN hp).2.2
 unfold cost
 generalize rws N (secs n) = R at *
 generalize secs n = d at *
 refine ⟨by omega, by omega, ?_⟩
 have : R ≤ 4 := by
  rcases Nat.lt_or_ge 4 R with h | h
  ·have : 4 * 2 ≤ (R - 1) * (N - 3) := Nat.mul_le_mul (by omega) (by omega)
   omega
  ·exact h
 omega
end Arr
end Go.Proofs.YtkbndlnmbbbohaaGreatDoor
