/-
  'known' of the space's laws answers true. No conditions.
-/
import Derived.Test.YtpbojhjbjnoihaaSpcNewU
namespace Go.Proofs.Ytpbojhjbjnoihaa
open Go Go.RowKit
set_option maxRecDepth 100000
set_option linter.unusedVariables false
namespace Sp
def k1 : SS := (allFree 10).mv 0 1 2 4
def k2 : SS := k1.mv 0 1 4 7
def k3 : SS := k2.mv 1 2 2 4
theorem known_new : newS 10 [(2, 4)] = .ok k1 := by rfl
theorem cells_of {w : World} {cs : Array Value} {t : TypeId} : RdZ2 (w.alloc (.cells #[.int .i64 2, .int .i64 4] t)) (some ⟨w.heap.size, 0, none⟩) [(2, 4)] := fun i r hr => by
  match i, hr with
  | 0, hr =>
    injection hr with hr
    subst hr
    exact ⟨w.heap.size, 0, rfl, by simp, (Blk.new w t _).cell 0, (Blk.new w t _).cell 1⟩
  | i + 1, hr => simp at hr
set_option maxHeartbeats 3200000 in
theorem known_any (w : World) : Calls Try.prog 6 #[] w fun e w' => e = .returned (.bool true) ∧ Below w.heap.size w w' := by
  have L0 := Lib.hid ((Below.refl w.heap.size w).alloc (Nat.le_refl _) (.cells #[.int .i64 2, .int .i64 4] 34))
  have HN := Lib.hid (new_in (w.alloc (.cells #[.int .i64 2, .int .i64 4] 34)) 10 (some ⟨w.heap.size, 0, none⟩) [(2, 4)] 1 (by omega) (by omega) (by decide) (cells_of (cs := #[])) (by intro r hr; simp at hr; subst hr; exact ⟨by unfold Z64; omega, by unfold Z64; omega⟩))
  go_enter Try.func6, Try.ntmps6
  go_wp2_with fail
  refine HN.out.mono ?_
  rintro e w2 hp
  rw [show ((10 : Nat) : Int) = 10 from rfl, known_new] at hp
  obtain ⟨b, m, F, V, rfl, hs, hb⟩ := hp
  obtain ⟨B, hB⟩ : ∃ B, B = (w.alloc (.cells #[.int .i64 2, .int .i64 4] 34)).heap.size := ⟨_, rfl⟩
  rw [← hB] at hs hb
  have HB : Hid (w.heap.size ≤ B) := Lib.hid (by rw [hB]; simp)
  have L2 : Hid (Below w.heap.size w w2) := Lib.hid (L0.out.trans (hb.mono HB.out))
  have S2 := Lib.hid hs
  have z2 := Lib.hid hb.size
  rw [← hB] at z2
  have f1 := Lib.hid (free_rg hs)
  clear hs hb hB HN
  go_wp2_with fail
  refine f1.out.mono ?_
  rintro e w3 ⟨rfl, b3⟩
  rw [show ((cnt (k1.S 0) : Int) - (k1.kept : Int)) = 8 from rfl]
  have S3 : Hid (Spc w3 B b m 3 F V k1) := Lib.hid ⟨S2.out.mem.below b3 (Nat.le_refl _), S2.out.good⟩
  have L3 := Lib.hid (L2.out.trans (b3.mono L2.out.size))
  have z3 := Lib.hid (Nat.le_trans z2.out b3.size)
  have ht := Lib.hid (take_yes S3.out z3.out (show 3 + 2 < maxLen by decide) 3 4 (by omega) rfl (by decide))
  clear b3 f1
  go_wp2_with fail
  refine ht.out.mono ?_
  rintro e w4 ⟨rfl, F4, V4, h4, c4⟩
  have S4 : Hid (Spc w4 B b m 3 F4 V4 k2) := Lib.hid h4.three
  have b4 := c4.below S3.out.mem z3.out
  have L4 := Lib.hid (L3.out.trans (b4.mono HB.out))
  have z4 := Lib.hid (Nat.le_trans z3.out c4.size)
  have hg := Lib.hid (give_sp S4.out z4.out (show 3 + 2 < maxLen by decide) 2 2 (by omega) (by decide))
  rw [show hasL 2 (2 + 2) (k2.S 1) = true from rfl] at hg
  clear h4 c4 b4 ht
  go_wp2_with fail
  refine hg.out.mono ?_
  rintro e w5 ⟨rfl, F5, V5, h5, c5⟩
  rw [if_pos trivial] at h5
  have S5 : Hid (Spc w5 B b m 3 F5 V5 k3) := Lib.hid h5.three
  have b5 := c5.below S4.out.mem z4.out
  have L5 := Lib.hid (L4.out.trans (b5.mono HB.out))
  have z5 := Lib.hid (Nat.le_trans z4.out c5.size)
  have f5 := Lib.hid (free_rg S5.out)
  clear h5 c5 b5 hg
  go_wp2_with fail
  refine f5.out.mono ?_
  rintro e w6 ⟨rfl, b6⟩
  rw [show ((cnt (k3.S 0) : Int) - (k3.kept : Int)) = 5 from rfl]
  have S6 : Hid (Spc w6 B b m 3 F5 V5 k3) := Lib.hid ⟨S5.out.mem.below b6 (Nat.le_refl _), S5.out.good⟩
  have L6 := Lib.hid (L5.out.trans (b6.mono L5.out.size))
  have z6 := Lib.hid (Nat.le_trans z5.out b6.size)
  have hs := Lib.hid (settle_sp S6.out z6.out)
  clear b6 f5
  go_wp2_with fail
  refine hs.out.mono ?_
  rintro e w7 ⟨rfl, F7, V7, h7, c7⟩
  rw [show (cnt (k3.S 2) : Int) = 2 from rfl]
  have S7 : Hid (Spc w7 B b m 3 F7 V7 k3.settled) := Lib.hid h7
  have b7 := c7.below S6.out.mem z6.out
  have L7 := Lib.hid (L6.out.trans (b7.mono HB.out))
  have f7 := Lib.hid (free_rg S7.out)
  clear h7 c7 b7 hs
  go_wp2_with fail
  refine f7.out.mono ?_
  rintro e w8 ⟨rfl, b8⟩
  rw [show ((cnt (k3.settled.S 0) : Int) - (k3.settled.kept : Int)) = 7 from rfl]
  have L8 := Lib.hid (L7.out.trans (b8.mono L7.out.size))
  clear b8 f7
  go_wp2_with fail
  go_ret
  exact ⟨rfl, L8.out⟩
end Sp
end Go.Proofs.Ytpbojhjbjnoihaa
