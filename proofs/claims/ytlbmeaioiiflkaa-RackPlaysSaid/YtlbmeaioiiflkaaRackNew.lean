/-
  'rack.New' and 'rack.holds' by contracts. Conditions: the rack is one, the place is one of its own.
-/
import Derived.Test.YtlbmeaioiiflkaaRackAwait
namespace Go.Proofs.Ytlbmeaioiiflkaa
open Go.RowKit
set_option linter.unusedVariables false

def RS.new (nd ns : Nat) : RS := ⟨nd, ns, fun _ _ => zeros, 0, fun _ => ⟨0, 0, zeros⟩, fun _ => false, false, false, 0, 0⟩

set_option maxRecDepth 100000 in
set_option maxHeartbeats 1600000 in
theorem new_any (w : World) (nd ns : Nat) (h1 : 1 ≤ nd) (h2 : nd ≤ 16) (h3 : 1 ≤ ns) (h4 : ns ≤ 2000) :
    Calls Try.prog 10 #[.int .i64 (nd : Int), .int .i64 (ns : Int)] w fun e w' => (∃ r, e = .returned (.tuple #[.pointer (some ⟨r, 0, none⟩), .int .i64 0]) ∧ RackAt w.heap.size w' r (RS.new nd ns)) ∧ Keep w.heap.size w w' := by
  have t1 : ((nd : Int) < 1) = False := by simp; omega
  have t2 : ((16 : Int) < (nd : Int)) = False := by simp; omega
  have t3 : ((ns : Int) < 1) = False := by simp; omega
  have t4 : ((2000 : Int) < (ns : Int)) = False := by simp; omega
  have d1 : decide ((nd : Int) < 1) = false := by simp; omega
  have d2 : decide ((16 : Int) < (nd : Int)) = false := by simp; omega
  have d3 : decide ((ns : Int) < 1) = false := by simp; omega
  have d4 : decide ((2000 : Int) < (ns : Int)) = false := by simp; omega
  have hmk : ∀ w : World, (Instr.makeMap 47 none).run Try.prog w = .ok (.map (some w.heap.size)) (w.alloc (.map #[] 0)) := fun w => by kernel_rfl
  go_enter Try.func10, Try.ntmps10
  go_wp2_with fail
  refine (await_any w.heap.size _ (w.heap.size + 1) w.heap.size none 0 0 (RS.new nd ns) (RS.new nd ns) ⟨rfl, rfl, rfl, rfl, rfl, rfl⟩ _ (blk_new2 w (.map #[] 0) _ _) rfl ?_ (by omega) (by omega) (by omega) rfl ⟨0, _, Nat.le_refl _, (MapFp.made w).alloc _, fun d a _ _ => rfl⟩ ⟨rfl, .inl ⟨rfl, rfl⟩⟩
    ⟨h1, h2, h3, h4, by show 0 ≤ _; omega, by show 0 ≤ _; omega, fun i hi => absurd hi (Nat.not_lt_zero _), fun d a j hj => by show 0 < 256; omega⟩).mono ?_
  · intro j hj j3 j4
    repeat (rcases j with _ | j; · first | rfl | exact absurd rfl j4)
    omega
  rintro e w2 ⟨rfl, hra, hk⟩
  have HR := Lib.hid hra
  have HK := Lib.hid hk
  clear hra hk
  go_wp2_with fail
  go_ret2
  exact ⟨⟨_, rfl, HR.out⟩, (((Keep.refl _ w).alloc (Nat.le_refl _) _).alloc (by simp) _).trans HK.out⟩

set_option maxRecDepth 100000 in
set_option maxHeartbeats 1600000 in
theorem holds_any {B : Nat} (w : World) (r : Nat) (s : RS) (d a : Nat) (h : RackAt B w r s) (hd : d < s.nd) (ha : a < s.ns) :
    Calls Try.prog 38 #[.pointer (some ⟨r, 0, none⟩), placeV d a] w fun e w' => e = .returned (.agg (secA (s.holds d a))) ∧ RackAt B w' r s ∧ Keep B w w' := by
  have H2 := (h.alloc (.cells #[.int .i64 (d : Int), .int .i64 (a : Int)] 54)).alloc (.cells (secA zeros) 57)
  have K2 := Lib.hid (((Keep.refl B w).alloc h.le (.cells #[.int .i64 (d : Int), .int .i64 (a : Int)] 54)).alloc (h.alloc _).le (.cells (secA zeros) 57))
  have b1 := (Blk.new w 54 #[.int .i64 (d : Int), .int .i64 (a : Int)]).alloc (.cells (secA zeros) 57)
  have b2 := blk_new2 w (.cells #[.int .i64 (d : Int), .int .i64 (a : Int)] 54) (secA zeros) 57
  have hB := h.le
  have hz := zero_sector
  unfold placeV
  clear h
  go_enter Try.func38, Try.ntmps38
  go_wp2_with fail
  generalize (w.alloc (.cells #[.int .i64 (d : Int), .int .i64 (a : Int)] 54)).alloc (.cells (secA zeros) 57) = w2 at *
  obtain ⟨h0, m1, m2, v, hw⟩ := H2
  have HW := Lib.hid hw
  have H0 := Lib.hid h0
  have B1 := Lib.hid b1
  have B2 := Lib.hid b2
  have c2 := hw.c2
  have c3 := hw.c3
  have c4 := hw.c4
  have p0 : w2.cell? ⟨w.heap.size, 0, none⟩ = some (.int .i64 (d : Int)) := b1.cell 0
  have p1 : w2.cell? ⟨w.heap.size, 1, none⟩ = some (.int .i64 (a : Int)) := b1.cell 1
  have hlk := fun n => (hw.newest.drewN n).look Try.underlying49 (zero_int _) (show d < 4611686018427387904 by have := h0.nd2; omega) (show a < 4611686018427387904 by have := h0.ns2; omega) true
  simp only [if_true, pkey] at hlk
  clear hw h0 b1 b2
  cases hni : newIn s.W d a s.nw with
  | some i =>
    have eh : s.holds d a = (s.W i).x := by unfold RS.holds; rw [hni]
    have EH := Lib.hid eh
    simp only [hni, Option.map_some, Option.getD_some, Option.isSome_some, iv] at hlk
    have hi := (newIn_lt hni).1
    obtain ⟨g, cap, rfl⟩ := own_slice HW.out.row (by omega)
    have hls := fun n => load_rowS (HW.out.drewN n).row hi
    have hnw := HW.out.nw_le
    have hcost := H0.out.cost
    have i1 : (0 : Int) ≤ (i : Int) := by omega
    have i2 : (i : Int) < (s.nw : Int) := by omega
    clear hni eh
    go_quiet (fail)
    go_wp2_with (refine wpList_loadX rfl 57 _ rfl _ _ rfl (hls _) ?_; refine of_hid ?_)
    refine Lib.hid ?_
    refine wpList_storeBlk rfl 57 (.tmp 4) (.tmp 24) rfl (w.heap.size + 1) (secA zeros) (secA (s.W i).x) rfl rfl (B2.out.drewN _) (by rw [secA_size]; exact isize_sector) (by rw [secA_size, secA_size]) (secA_one _) ?_
    intro w4 hb4 hg4 hs4
    have H4 := Lib.hid ((HW.out.drewN _).grownFar (B2.out.drewN _) rfl hg4)
    have K4 := Lib.hid ((K2.out.drewN _).grownNew hg4 (by omega) (Nat.le_trans HW.out.le (Nat.le_refl _)) (by omega))
    have hlv := loadVar_blk hb4 Try.underlying57 rfl (by rw [secA_size]; exact isize_sector)
    clear hb4 hg4 hs4 hls hlk
    have HL := Lib.hid hlv
    clear hlv
    go_wp2_with fail
    refine bodyPost_ret (results_cell rfl rfl HL.out) rfl ?_
    rw [EH.out]
    exact ⟨rfl, ⟨H0.out, m1, m2, _, H4.out⟩, K4.out⟩
  | none =>
    have eh : s.holds d a = s.last d a := by unfold RS.holds; rw [hni]
    have EH := Lib.hid eh
    simp only [hni, Option.map_none, Option.getD_none, Option.isSome_none] at hlk
    obtain ⟨nl, F, f1, f2, f3⟩ := HW.out.last
    have hl1 : ∀ n, (Instr.lookup 47 (.map (some m1)) (.agg #[.int .i64 (d : Int), .int .i64 (a : Int)]) false).run Try.prog (w2.drewN n) = .ok (.agg (secA (s.last d a))) (w2.drewN n) := by
      intro n
      have := (f2.drewN n).look Try.underlying47 (zero_sector _) (show d < 4611686018427387904 by have := H0.out.nd2; omega) (show a < 4611686018427387904 by have := H0.out.ns2; omega) false
      rw [f3 d a (by have := H0.out.nd2; omega) (by have := H0.out.ns2; omega)] at this
      exact this
    clear hni eh f1 f2 f3
    go_quiet (fail)
    go_wp2_with fail
    refine region_quiet_tail 6 (by kernel_rfl) (by kernel_rfl) ?_
    simp only [List.take_succ_cons, List.take_zero, List.drop_succ_cons, List.drop_zero]
    simp only [World.drewN_drewN]
    repeat (quiet_step (fail))
    refine wpQuiet_nil ?_
    rintro _ ⟨nq, rfl⟩
    refine wpList_storeBlk rfl 57 (.tmp 4) (.tmp 30) rfl (w.heap.size + 1) (secA zeros) (secA (s.last d a)) rfl rfl (B2.out.drewN _) (by rw [secA_size]; exact isize_sector) (by rw [secA_size, secA_size]) (secA_one _) ?_
    intro w4 hb4 hg4 hs4
    have H4 := Lib.hid ((HW.out.drewN _).grownFar (B2.out.drewN _) rfl hg4)
    have K4 := Lib.hid ((K2.out.drewN _).grownNew hg4 (by omega) (Nat.le_trans HW.out.le (Nat.le_refl _)) (by omega))
    have HL := Lib.hid (loadVar_blk hb4 Try.underlying57 rfl (by rw [secA_size]; exact isize_sector))
    clear hb4 hg4 hs4 hl1 hlk
    go_wp2_with fail
    refine bodyPost_ret (results_cell rfl rfl HL.out) rfl ?_
    rw [EH.out]
    exact ⟨rfl, ⟨H0.out, m1, m2, _, H4.out⟩, K4.out⟩
end Go.Proofs.Ytlbmeaioiiflkaa
