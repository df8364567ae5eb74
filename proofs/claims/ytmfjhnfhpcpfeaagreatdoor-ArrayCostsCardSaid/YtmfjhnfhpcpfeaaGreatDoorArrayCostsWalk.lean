/-
  The walk of 'ArrayCosts': a block's cells are its sectors, and three for each row.
-/
import Derived.Test.YtmfjhnfhpcpfeaaGreatDoorShaLaidM
namespace Go.Proofs.YtmfjhnfhpcpfeaaGreatDoor
open Go Go.RowKit refRack
set_option maxRecDepth 100000
set_option linter.unusedVariables false
namespace Arr
theorem umodC (a : Int) (k : Nat) (hk : 0 < k) (hk2 : k ≤ 1000000) : ∃ n : Nat, wrap64 ((IntKind.u64.wrap a).tmod (k : Int)) = (n : Int) ∧ n < k := by
  have h0 : 0 ≤ IntKind.u64.wrap a := by rw [IntKind.wrap_u64]; omega
  have h1 := Int.tmod_nonneg (k : Int) h0
  have h2 := Int.tmod_lt_of_pos (IntKind.u64.wrap a) (show (0 : Int) < k by omega)
  refine ⟨((IntKind.u64.wrap a).tmod (k : Int)).toNat, ?_, by omega⟩
  generalize (IntKind.u64.wrap a).tmod (k : Int) = y at *
  unfold wrap64
  omega
end Arr
namespace arrayCosts
open Arr
set_option maxHeartbeats 3200000 in
theorem walk (a0 a1 a2 : Int) (w : World) (w0 : (Lit.int .i64 a0).wf = true) (w1 : (Lit.int .i64 a1).wf = true) (w2 : (Lit.int .i64 a2).wf = true) (hl : Laid w) :
    Calls Tryz.prog 3 #[.int .i64 a0, .int .i64 a1, .int .i64 a2] w fun e w' => e = .returned (.bool true) ∧ Below w.heap.size w w' := by
  have HLD := Lib.hid hl
  have hpos := hl.pos
  obtain ⟨n0, hat, hn0⟩ := umodC a0 12 (by omega) (by omega)
  have hat : wrap64 ((IntKind.u64.wrap a0).tmod 12) = (n0 : Int) := hat
  have HKN := Lib.hid (known_arr w hl)
  clear hl w0 w2
  obtain ⟨N, hN⟩ : ∃ N, N = n0 + 5 := ⟨_, rfl⟩
  have HN : Hid ((5 : Int) + (n0 : Int) = (N : Int)) := Lib.hid (by omega)
  have hN5 : 5 ≤ N := by omega
  have hN16 : N ≤ 16 := by omega
  go_enter Tryz.func3, Tryz.ntmps3
  go_wp2_with fail
  refine HKN.out.mono ?_
  rintro e w3 ⟨rfl, b3⟩
  have B3 := Lib.hid b3
  clear b3 HKN
  go_wp2_with fail
  rw [HN.out]
  clear hN hat
  refine (new_any w3 N 20 (by omega) (by omega) (by omega) (by omega)).mono ?_
  rintro e w4 ⟨⟨r, rfl, h4⟩, k4⟩
  have HA : Hid (Calls Tryz.prog 11 #[.pointer (some ⟨r, 0, none⟩), .int .i64 0] w4 fun e w' => e = .returned (.tuple #[.pointer (some ⟨w4.heap.size, 0, none⟩), .int .i64 0]) ∧ w' = w4.alloc (.cells (arrA r 0) 69) ∧ Arr.At w3.heap.size w' w4.heap.size r 0 (RS.new N 20) ∧ Keep w3.heap.size w4 w') := Lib.hid (new_ok w4 h4 hN5 (by show 0 < 20; decide))
  have K4 := Lib.hid k4
  clear h4 k4
  go_wp2_with fail
  refine HA.out.mono ?_
  rintro e w5 ⟨rfl, hw5, hA5, k5⟩
  clear hw5
  generalize w4.heap.size = a at *
  have A5 := Lib.hid hA5
  have B5 : Hid (Below w.heap.size w w5) := Lib.hid (B3.out.trans ((K4.out.trans k5).below.mono B3.out.size))
  clear hA5 k5 HA K4
  by_cases hz : a1 < 1 ∨ 1024 < a1
  · have HC := Lib.hid (cost_no w5 A5.out a1 hz)
    have HD := Lib.hid (drives_size w5 A5.out 0 a1 hz)
    go_wp2_with fail
    refine HC.out.mono ?_
    rintro e w6 ⟨rfl, rfl⟩
    rcases hz with hz | hz
    · go_wp2_with fail
      refine HD.out.mono ?_
      rintro e w7 ⟨rfl, rfl⟩
      go_wp2_with fail
      go_ret
      exact ⟨rfl, B5.out⟩
    · have hz1 : ¬ a1 < 1 := by omega
      go_wp2_with fail
      refine HD.out.mono ?_
      rintro e w7 ⟨rfl, rfl⟩
      go_wp2_with fail
      go_ret
      exact ⟨rfl, B5.out⟩
  · obtain ⟨n, rfl⟩ : ∃ n : Nat, a1 = (n : Int) := ⟨a1.toNat, by omega⟩
    have h1 : 1 ≤ n := by omega
    have h2 : n ≤ 1024 := by omega
    have HC := Lib.hid (cost_ok w5 A5.out n h1 h2)
    have HCL := Lib.hid (cells_any w5 A5.out)
    have hnd : (RS.new N 20).nd = N := rfl
    have hcl : cells (RS.new N 20) 0 = N * 20 := rfl
    rw [hnd] at HC
    rw [hcl] at HCL
    go_wp2_with fail
    refine HC.out.mono ?_
    rintro e w6 ⟨rfl, hw6⟩
    have hw6 := hw6.symm
    subst hw6
    go_wp2_with fail
    have hs1 : ((n : Int) + 127) / 128 = ((secs n : Nat) : Int) := by unfold secs; omega
    have hsp := secs_pos h1
    have hs8 := secs_le h2
    have hr1 : (((secs n : Nat) : Int) + (N : Int) - 4) / ((N : Int) - 3) = ((rws N (secs n) : Nat) : Int) := by
      unfold rws
      rw [Int.natCast_ediv]
      congr 1 <;> omega
    have hrw := rws_le hN5 hsp
    have hcc : cost N n = secs n + 3 * rws N (secs n) := rfl
    have hcc2 : cost N n ≤ 32 := by omega
    rw [hs1, hr1]
    have HCC := Lib.hid hcc
    obtain ⟨k, hk⟩ : ∃ k, k = N * 20 - cost N n + 1 := ⟨_, rfl⟩
    obtain ⟨ad, had, hadk⟩ := umodC a2 k (by omega) (by omega)
    have HCELL : Hid (cells (RS.new N 20) 0 = N * 20) := Lib.hid hcl
    obtain ⟨C, hC⟩ : ∃ C, C = N * 20 := ⟨_, rfl⟩
    rw [← hC] at HCL HCELL hk
    have hCb : C ≤ 320 := by omega
    have hCc : cost N n ≤ C := by omega
    have HD := Lib.hid (fun d => drives_ok (w5.drewN d) (A5.out.drewN d) ad n h1 h2 (by rw [HCELL.out]; show ad + cost N n ≤ C; omega))
    have HF := Lib.hid (fun W (h : Arr.At w3.heap.size W a r 0 (RS.new N 20)) => drives_far W h k n h1 h2 (by rw [HCELL.out]; show C < k + cost N n; omega) (by omega))
    have HCL2 := Lib.hid (fun W (h : Arr.At w3.heap.size W a r 0 (RS.new N 20)) => cells_any W h)
    rw [HCELL.out] at HCL2
    have HHK : Hid ((C : Int) - ((cost N n : Nat) : Int) + 1 = (k : Int)) := Lib.hid (by omega)
    have e1 : (C : Int) - ((cost N n : Nat) : Int) + 1 = (k : Int) := HHK.out
    have HAD := Lib.hid had
    have hk1 : 1 ≤ k := by omega
    have hk2 : k ≤ 321 := by omega
    clear hs1 hr1 hcl hnd hcc hC hk HC
    generalize hcg : cost N n = c at *
    generalize secs n = dd at *
    generalize rws N dd = R at *
    refine HCL.out.mono ?_
    rintro e w6 ⟨rfl, d, rfl⟩
    go_wp2_with fail
    refine (HD.out d).mono ?_
    rintro e w7 ⟨v7, rfl, h7, b7⟩
    have A7 : Hid (Arr.At w3.heap.size w7 a r 0 (RS.new N 20)) := Lib.hid ((A5.out.drewN d).grown_ b7)
    have B7 : Hid (Below w.heap.size w w7) := Lib.hid ((below_drewN B5.out d).trans (b7.mono (below_drewN B5.out d).size))
    obtain ⟨A, m, cp, rfl, hm⟩ : ∃ A m cp, v7 = .slice A m cp ∧ m = min c N := by
      have e : (Sq.srt (drvL (RS.new N 20).nd ad (min (cost (RS.new N 20).nd n) (RS.new N 20).nd))).length = min c N := by
        rw [Sq.srt_length, drvL_length, ← hcg]
        rfl
      rcases Nr.own_shape h7 with ⟨rfl, e2⟩ | ⟨g, c2, rfl, _⟩
      · rw [e2] at e
        exact ⟨none, 0, 0, rfl, e⟩
      · exact ⟨_, _, _, rfl, e⟩
    have HCL3 := Lib.hid (HCL2.out w7 A7.out)
    clear h7 b7 HD HCL HCL2
    have hm2 : min (c : Int) (N : Int) = (m : Int) := by omega
    have hcc3 : (dd : Int) + 3 * (R : Int) = (c : Int) := by have := HCC.out; omega
    have HHM := Lib.hid hm
    clear hm
    go_wp2_with fail
    refine HCL3.out.mono ?_
    rintro e w8 ⟨rfl, d2, rfl⟩
    have HF2 := Lib.hid (HF.out (w7.drewN d2) (A7.out.drewN d2))
    go_wp2_with fail
    refine HF2.out.mono ?_
    rintro e w9 ⟨rfl, d3, rfl⟩
    go_wp2_with fail
    go_ret
    exact ⟨rfl, below_drewN B7.out (d2 + d3)⟩
end arrayCosts
end Go.Proofs.YtmfjhnfhpcpfeaaGreatDoor
