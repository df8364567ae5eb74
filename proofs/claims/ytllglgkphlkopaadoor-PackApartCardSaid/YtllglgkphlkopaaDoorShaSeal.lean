/-
  'sha.Seal' and 'sha.Open' by contracts. Conditions: the table of roots reads as it was laid; fewer than 2^40 bytes.
-/
import Derived.Test.YtllglgkphlkopaaDoorShaHex
namespace Go.Proofs.YtllglgkphlkopaaDoor
open Go Go.RowKit
set_option linter.unusedVariables false

theorem make_room (n : Nat) (hn : n ≤ 2199023255552) (w : World) (l : Int) (hl : l = (n : Int)) :
    (Instr.makeSlice 22 (.int .i64 0) (.int .i64 l)).run Tryd.prog w = .ok (.slice (some ⟨w.heap.size, 0, none⟩) 0 n) (w.alloc (.cells (rowArr n (fun _ => 0)) 5)) := by
  subst hl
  obtain ⟨i0, hi, hz0, hz1, hz2⟩ := info_parts info_u8
  have h := run_make (P := Tryd.prog) (w := w) 22 5 i0 (.int .u8 0) Tryd.underlying22 hi hz0 .i64 .i64 (0 : Int) (n : Int) (by omega) (by omega) (by rw [hz2]; omega) (by omega)
  rw [h, hz1, Int.toNat_natCast, Nat.mul_one]
  show _ = _
  rw [show (Value.int .u8 0).cells = #[.int .u8 0] from rfl, madeCells_one, replicate_row]
  rfl
theorem make_long (n : Nat) (hn : n ≤ 2199023255552) (w : World) (l : Int) (hl : l = (n : Int)) :
    (Instr.makeSlice 22 (.int .i64 l) (.int .i64 l)).run Tryd.prog w = .ok (.slice (some ⟨w.heap.size, 0, none⟩) n n) (w.alloc (.cells (rowArr n (fun _ => 0)) 5)) := by
  subst hl
  obtain ⟨i0, hi, hz0, hz1, hz2⟩ := info_parts info_u8
  have h := run_make (P := Tryd.prog) (w := w) 22 5 i0 (.int .u8 0) Tryd.underlying22 hi hz0 .i64 .i64 (n : Int) (n : Int) (by omega) (by omega) (by rw [hz2]; omega) (by omega)
  rw [h, hz1, Int.toNat_natCast, Nat.mul_one]
  show _ = _
  rw [show (Value.int .u8 0).cells = #[.int .u8 0] from rfl, madeCells_one, replicate_row]
/-- an append to the call's own row turns nothing that was there -/
theorem own_grown {w0 w w' : World} {base n : Nat} {v : Value} {X : Nat → Nat} (hb : Below base w0 w) (ho : Own8 w base v n X) (hg : w.grownBy w' v.ownBlock) (hs : base ≤ w.heap.size) : Below base w0 w' :=
  hb.trans ⟨hg.os, hg.tape, hg.output, hg.size, fun k hk => hg.block k (by omega) (fun e => by have := (ho.lt e.symm).2; omega)⟩

set_option maxRecDepth 100000 in
set_option maxHeartbeats 1600000 in
theorem seal_any (A : Option Addr) (n c B : Nat) (X : Nat → Nat) (w : World) (hx : RdB w B A n X) (hX : ∀ j, X j < 256) (hB : B ≤ w.heap.size) (hnc : n ≤ c) (hcm : c ≤ maxLen) (h0 : A = none → c = 0) (hn : n ≤ 1099511627776) (hl : Laid w) :
    Calls Tryd.prog 15 #[.slice A n c] w fun e w' => ∃ v, e = .returned v ∧ Own8 w' w.heap.size v (n + 32) (cat n X (M.sum n X)) ∧ Below w.heap.size w w' := by
  have HX := Lib.hid hx
  have HL := Lib.hid hl
  have hpos := hl.pos
  have HC := Lib.hid hcm
  have H0 := Lib.hid h0
  have hmk := fun W => make_room (n + 32) (by omega) W ((n : Int) + 32) (by omega)
  have O1 : Hid (Own8 (w.alloc (.cells (rowArr (n + 32) fun _ => 0) 5)) w.heap.size (.slice (some ⟨w.heap.size, 0, none⟩) 0 (n + 32)) 0 (fun _ => 0)) := Lib.hid (Own8.of_blk (Blk.new w _ _) (Nat.le_refl _) (by omega) (by unfold maxLen; omega))
  have L1 : Hid (Below w.heap.size w (w.alloc (.cells (rowArr (n + 32) fun _ => 0) 5))) := Lib.hid ((Below.refl _ _).alloc (Nat.le_refl _) _)
  clear hx hl hcm h0
  go_enter Tryd.func15, Tryd.ntmps15
  go_wp2_with ((with_reducible refine wpList_append_rd rfl (.tmp 8) (.tmp 9) rfl rfl rfl O1.out (HX.out.below L1.out hB) H0.out hnc (by omega) (by simp) ?_); intro v2 w2 ho2 hg2 _; refine of_hid ?_)
  refine Lib.hid ?_
  have O2 := Lib.hid ho2
  have L2 := Lib.hid (own_grown L1.out O1.out hg2 (by simp))
  clear ho2 hg2 O1 L1 hmk
  go_wp2_with fail
  refine (sum_any A n c B X w2 (HX.out.below L2.out hB) hX (Nat.le_trans hB L2.out.size) hnc HC.out hn (HL.out.below L2.out hpos)).mono ?_
  rintro e w3 ⟨rfl, hl3⟩
  have O3 := Lib.hid (O2.out.below hl3 (Nat.le_refl _))
  have L3 := Lib.hid (L2.out.trans (hl3.mono L2.out.size))
  clear hl3 O2 L2
  go_wp2_with ((with_reducible refine wpList_append_txt rfl (.tmp 11) (.tmp 13) rfl rfl rfl O3.out (fun j _ => M.sum_lt n X j) (by omega) L3.out.size ?_); intro v4 w4 ho4 hg4; refine of_hid ?_)
  refine Lib.hid ?_
  have L4 := Lib.hid (own_grown L3.out O3.out hg4 L3.out.size)
  have O4 : Hid (Own8 w4 w.heap.size v4 (n + 32) (cat n X (M.sum n X))) := by
    have h := ho4
    rw [show 0 + n + 32 = n + 32 by omega] at h
    exact Lib.hid (h.congr fun j hj => by
      unfold cat
      by_cases h : j < n
      · rw [if_pos (by omega), if_neg (by omega), if_pos h]; rfl
      · rw [if_neg (by omega), if_neg h, show j - (0 + n) = j - n by omega])
  clear ho4 hg4
  go_wp2_with fail
  go_ret
  exact ⟨_, rfl, O4.out, L4.out⟩
end Go.Proofs.YtllglgkphlkopaaDoor
