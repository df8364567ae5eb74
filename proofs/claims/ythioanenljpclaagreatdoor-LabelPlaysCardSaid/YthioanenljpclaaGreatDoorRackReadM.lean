/-
  'rack.New' and 'rack.holds' by contracts. Conditions: the rack is one, the place is one of its own.
-/
import Derived.Test.YthioanenljpclaaGreatDoorRackAwaitM
import Derived.WalkSpells
import Derived.Laws.AppendOwn
namespace Go.Proofs.YthioanenljpclaaGreatDoor
set_option maxRecDepth 100000
open Go.RowKit
set_option linter.unusedVariables false

def RS.new (nd ns : Nat) : RS := ⟨nd, ns, fun _ _ => zeros, 0, fun _ => ⟨0, 0, zeros⟩, fun _ => false, false, false, 0, 0⟩

set_option maxRecDepth 100000 in
set_option maxHeartbeats 1600000 in
theorem new_any (w : World) (nd ns : Nat) (h1 : 1 ≤ nd) (h2 : nd ≤ 16) (h3 : 1 ≤ ns) (h4 : ns ≤ 2000) :
    Calls Tryz.prog 5 #[.int .i64 (nd : Int), .int .i64 (ns : Int)] w fun e w' => (∃ r, e = .returned (.tuple #[.pointer (some ⟨r, 0, none⟩), .int .i64 0]) ∧ RackAt w.heap.size w' r (RS.new nd ns)) ∧ Keep w.heap.size w w' := by
  have t1 : ((nd : Int) < 1) = False := by simp; omega
  have t2 : ((16 : Int) < (nd : Int)) = False := by simp; omega
  have t3 : ((ns : Int) < 1) = False := by simp; omega
  have t4 : ((2000 : Int) < (ns : Int)) = False := by simp; omega
  have d1 : decide ((nd : Int) < 1) = false := by simp; omega
  have d2 : decide ((16 : Int) < (nd : Int)) = false := by simp; omega
  have d3 : decide ((ns : Int) < 1) = false := by simp; omega
  have d4 : decide ((2000 : Int) < (ns : Int)) = false := by simp; omega
  have hmk : ∀ w : World, (Instr.makeMap 63 none).run Tryz.prog w = .ok (.map (some w.heap.size)) (w.alloc (.map #[] 0)) := fun w => by kernel_rfl
  go_enter Tryz.func5, Tryz.ntmps5
  go_wp2_with fail
  refine (await_any w.heap.size _ (w.heap.size + 1) w.heap.size none 0 0 (RS.new nd ns) (RS.new nd ns) ⟨rfl, rfl, rfl, rfl, rfl, rfl⟩ _ (blk_new2 w (.map #[] 0) _ _) rfl ?_ (by omega) (by omega) (by omega) rfl ⟨0, _, Nat.le_refl _, (MapFp.made w).alloc _, fun d a _ _ => rfl⟩ ⟨rfl, .inl ⟨rfl, rfl⟩⟩
    ⟨h1, h2, h3, h4, by show 0 ≤ _; omega, by show 0 ≤ _; omega, fun i hi => absurd hi (Nat.not_lt_zero _), fun d a j hj => by show 0 < 256; omega⟩).mono ?_
  · intro j hj j3 j4
    repeat (rcases j with _ | j; · first | rfl | exact absurd rfl j4)
    omega
  rintro e w2 ⟨rfl, hra, hk⟩
  have HR := Lib.hid hra
  have HK := Lib.hid hk
  clear hra hk
  go_wp2_with fail
  go_ret2
  exact ⟨⟨_, rfl, HR.out⟩, (((Keep.refl _ w).alloc (Nat.le_refl _) _).alloc (by simp) _).trans HK.out⟩

set_option maxRecDepth 100000 in
set_option maxHeartbeats 1600000 in
theorem holds_any {B : Nat} (w : World) (r : Nat) (s : RS) (d a : Nat) (h : RackAt B w r s) (hd : d < s.nd) (ha : a < s.ns) :
    Calls Tryz.prog 45 #[.pointer (some ⟨r, 0, none⟩), placeV d a] w fun e w' => e = .returned (.agg (secA (s.holds d a))) ∧ RackAt B w' r s ∧ Keep B w w' := by
  have H2 := (h.alloc (.cells #[.int .i64 (d : Int), .int .i64 (a : Int)] 84)).alloc (.cells (secA zeros) 87)
  have K2 := Lib.hid (((Keep.refl B w).alloc h.le (.cells #[.int .i64 (d : Int), .int .i64 (a : Int)] 84)).alloc (h.alloc _).le (.cells (secA zeros) 87))
  have b1 := (Blk.new w 84 #[.int .i64 (d : Int), .int .i64 (a : Int)]).alloc (.cells (secA zeros) 87)
  have b2 := blk_new2 w (.cells #[.int .i64 (d : Int), .int .i64 (a : Int)] 84) (secA zeros) 87
  have hB := h.le
  have hz := zero_sector
  unfold placeV
  clear h
  go_enter Tryz.func45, Tryz.ntmps45
  go_wp2_with fail
  generalize (w.alloc (.cells #[.int .i64 (d : Int), .int .i64 (a : Int)] 84)).alloc (.cells (secA zeros) 87) = w2 at *
  obtain ⟨h0, m1, m2, v, hw⟩ := H2
  have HW := Lib.hid hw
  have H0 := Lib.hid h0
  have B1 := Lib.hid b1
  have B2 := Lib.hid b2
  have c2 := hw.c2
  have c3 := hw.c3
  have c4 := hw.c4
  have p0 : w2.cell? ⟨w.heap.size, 0, none⟩ = some (.int .i64 (d : Int)) := b1.cell 0
  have p1 : w2.cell? ⟨w.heap.size, 1, none⟩ = some (.int .i64 (a : Int)) := b1.cell 1
  have hlk := fun n => (hw.newest.drewN n).look Tryz.underlying65 (zero_int _) (show d < 4611686018427387904 by have := h0.nd2; omega) (show a < 4611686018427387904 by have := h0.ns2; omega) true
  simp only [if_true, pkey] at hlk
  clear hw h0 b1 b2
  cases hni : newIn s.W d a s.nw with
  | some i =>
    have eh : s.holds d a = (s.W i).x := by unfold RS.holds; rw [hni]
    have EH := Lib.hid eh
    simp only [hni, Option.map_some, Option.getD_some, Option.isSome_some, iv] at hlk
    have hi := (newIn_lt hni).1
    obtain ⟨g, cap, rfl⟩ := own_slice HW.out.row (by omega)
    have hls := fun n => load_rowS (HW.out.drewN n).row hi
    have hnw := HW.out.nw_le
    have hcost := H0.out.cost
    have i1 : (0 : Int) ≤ (i : Int) := by omega
    have i2 : (i : Int) < (s.nw : Int) := by omega
    clear hni eh
    go_quiet (fail)
    go_wp2_with (refine wpList_loadX rfl 87 _ rfl _ _ rfl (hls _) ?_; refine of_hid ?_)
    refine Lib.hid ?_
    refine wpList_storeBlk rfl 87 (.tmp 4) (.tmp 24) rfl (w.heap.size + 1) (secA zeros) (secA (s.W i).x) rfl rfl (B2.out.drewN _) (by rw [secA_size]; exact isize_sector) (by rw [secA_size, secA_size]) (secA_one _) ?_
    intro w4 hb4 hg4 hs4
    have H4 := Lib.hid ((HW.out.drewN _).grownFar (B2.out.drewN _) rfl hg4)
    have K4 := Lib.hid ((K2.out.drewN _).grownNew hg4 (by omega) (Nat.le_trans HW.out.le (Nat.le_refl _)) (by omega))
    have hlv := loadVar_blk hb4 Tryz.underlying87 rfl (by rw [secA_size]; exact isize_sector)
    clear hb4 hg4 hs4 hls hlk
    have HL := Lib.hid hlv
    clear hlv
    go_wp2_with fail
    refine bodyPost_ret (results_cell rfl rfl HL.out) rfl ?_
    rw [EH.out]
    exact ⟨rfl, ⟨H0.out, m1, m2, _, H4.out⟩, K4.out⟩
  | none =>
    have eh : s.holds d a = s.last d a := by unfold RS.holds; rw [hni]
    have EH := Lib.hid eh
    simp only [hni, Option.map_none, Option.getD_none, Option.isSome_none] at hlk
    obtain ⟨nl, F, f1, f2, f3⟩ := HW.out.last
    have hl1 : ∀ n, (Instr.lookup 63 (.map (some m1)) (.agg #[.int .i64 (d : Int), .int .i64 (a : Int)]) false).run Tryz.prog (w2.drewN n) = .ok (.agg (secA (s.last d a))) (w2.drewN n) := by
      intro n
      have := (f2.drewN n).look Tryz.underlying63 (zero_sector _) (show d < 4611686018427387904 by have := H0.out.nd2; omega) (show a < 4611686018427387904 by have := H0.out.ns2; omega) false
      rw [f3 d a (by have := H0.out.nd2; omega) (by have := H0.out.ns2; omega)] at this
      exact this
    clear hni eh f1 f2 f3
    go_quiet (fail)
    go_wp2_with fail
    refine region_quiet_tail 6 (by kernel_rfl) (by kernel_rfl) ?_
    simp only [List.take_succ_cons, List.take_zero, List.drop_succ_cons, List.drop_zero]
    simp only [World.drewN_drewN]
    repeat (quiet_step (fail))
    refine wpQuiet_nil ?_
    rintro _ ⟨nq, rfl⟩
    refine wpList_storeBlk rfl 87 (.tmp 4) (.tmp 30) rfl (w.heap.size + 1) (secA zeros) (secA (s.last d a)) rfl rfl (B2.out.drewN _) (by rw [secA_size]; exact isize_sector) (by rw [secA_size, secA_size]) (secA_one _) ?_
    intro w4 hb4 hg4 hs4
    have H4 := Lib.hid ((HW.out.drewN _).grownFar (B2.out.drewN _) rfl hg4)
    have K4 := Lib.hid ((K2.out.drewN _).grownNew hg4 (by omega) (Nat.le_trans HW.out.le (Nat.le_refl _)) (by omega))
    have HL := Lib.hid (loadVar_blk hb4 Tryz.underlying87 rfl (by rw [secA_size]; exact isize_sector))
    clear hb4 hg4 hs4 hl1 hlk
    go_wp2_with fail
    refine bodyPost_ret (results_cell rfl rfl HL.out) rfl ?_
    rw [EH.out]
    exact ⟨rfl, ⟨H0.out, m1, m2, _, H4.out⟩, K4.out⟩
end Go.Proofs.YthioanenljpclaaGreatDoor
namespace Go.Proofs.YthioanenljpclaaGreatDoor
set_option maxRecDepth 100000
open Go.RowKit
set_option linter.unusedVariables false

theorem own_base {w : World} {B B' n c : Nat} {e : TypeId} {v : Value} {xs : List Value} (h : w.ownsRow B e c v n xs) (hb : B' ≤ B) : w.ownsRow B' e c v n xs := by
  refine ⟨h.1, ?_⟩
  rcases h.2 with e | ⟨g, cap, cur, e, h1, h2⟩
  · exact .inl e
  · exact .inr ⟨g, cap, cur, e, by omega, h2⟩
def rowL (n : Nat) (X : Nat → Nat) : List Value := (List.range n).map fun j => Value.int .u8 ((X j : Nat) : Int)
theorem rowL_length (n : Nat) (X : Nat → Nat) : (rowL n X).length = n := by simp [rowL]
theorem rowL_get {n j : Nat} (X : Nat → Nat) (h : j < n) : (rowL n X)[j]? = some (.int .u8 ((X j : Nat) : Int)) := by simp [rowL, h]

set_option maxRecDepth 100000 in
set_option maxHeartbeats 1600000 in
theorem clone_any (w : World) (g n c : Nat) (X : Nat → Nat) (hx : ∀ j, j < n → w.cell? ⟨g, j, none⟩ = some (.int .u8 ((X j : Nat) : Int))) (hn : n ≤ 70000) :
    Calls Tryz.prog 78 #[.slice (some ⟨g, 0, none⟩) n c] w fun e w' => ∃ v, e = .returned v ∧ w'.ownsRow w.heap.size 5 1 v n (rowL n X) ∧ Below w.heap.size w w' := by
  obtain ⟨i0, hi, hz0, hz1, hz2⟩ := info_parts info_u8
  have HX := Lib.hid hx
  clear hx
  have he : ∀ w : World, (binOp .eql 51 (.slice (some ⟨g, 0, none⟩) n c) (.slice none 0 0)).run Tryz.prog w = .ok (.bool false) w := by
    intro w
    simp only [binOp]
    simp [Op.equal, Op.maxDepth, Lib.run_equalIn_slice_nil w 9999 51 _ _ n c 0 0 Tryz.underlying51]
  go_enter Tryz.func78, Tryz.ntmps78
  have OW : Hid ((w.alloc (.cells #[] 5)).ownsRow w.heap.size 5 1 (.slice (some ⟨w.heap.size, 0, none⟩) 0 0) 0 []) :=
    ⟨rfl, .inr ⟨w.heap.size, 0, #[], rfl, Nat.le_refl _, (Blk.new w 5 #[]), Nat.le_refl _, by simp [maxLen], rfl, rfl⟩⟩
  go_wp2_with (at_builtin; refine wpList_append_own _ rfl (.tmp 5) (.tmp 6) 51 rfl w.heap.size 5 i0 (.int .u8 0) 1 1 Tryz.underlying51 hi hz0 hz1 hz2 rfl (by decide) _ _ _ rfl OW.out ⟨g, 0, none⟩ n c (rowL n X) rfl (by simp [rowL_length]) ?_ ?_ (by simp only [maxLen]; omega) (by omega) (by simp) ?_)
  · intro j u hj
    have hjn : j < n := by have := (List.getElem?_eq_some_iff.1 hj).1; rw [rowL_length] at this; exact this
    rw [rowL_get X hjn] at hj
    injection hj with hj
    subst hj
    have h1 := HX.out j hjn
    rw [add_plain, Nat.zero_add]
    exact ((w.cell?_alloc_old _ _ (Nat.ne_of_lt (block_lt_of_cell h1))).trans h1)
  · intro u hu
    simp only [rowL, List.mem_map] at hu
    obtain ⟨j, _, rfl⟩ := hu
    rfl
  · intro v' w2 hv2 hg2 _
    have HV := Lib.hid hv2
    have HG := Lib.hid hg2
    clear hv2 hg2
    go_wp2_with fail
    go_ret
    refine ⟨v', rfl, ?_, ?_⟩
    · exact HV.out
    · exact ((Below.refl _ w).alloc (Nat.le_refl _) _).grown HG.out (by simp) (fun k hk => by
        injection hk with hk
        exact Nat.le_of_eq hk)

/-- what Read answers where it answers no bytes -/
def RS.deny (s : RS) (D A : Int) : Int := if s.why D A = 0 then (if s.off then 16 else 0) else s.why D A

set_option maxRecDepth 100000 in
set_option maxHeartbeats 1600000 in
theorem read_no {B : Nat} (w : World) (r : Nat) (s : RS) (D A : Int) (h : RackAt B w r s) (hd : s.deny D A ≠ 0) :
    Calls Tryz.prog 64 #[.pointer (some ⟨r, 0, none⟩), .int .i64 D, .int .i64 A] w fun e w' => e = .returned (.tuple #[.slice none 0 0, .int .i64 (s.deny D A)]) ∧ RackAt B w' r s ∧ Keep B w w' := by
  have H1 := Lib.hid (h.alloc (.cells #[.int .i64 D, .int .i64 A] 84))
  have K1 := Lib.hid ((Keep.refl B w).alloc h.le (.cells #[.int .i64 D, .int .i64 A] 84))
  clear h
  go_enter Tryz.func64, Tryz.ntmps64
  go_wp2_with fail
  refine (reach_any _ r s D A H1.out).mono ?_
  rintro e w1 ⟨rfl, h2, k2, _, _⟩
  have H2 := Lib.hid h2
  have K2 := Lib.hid (K1.out.trans k2)
  clear h2 k2
  by_cases hw : s.why D A = 0
  · have ed : s.deny D A = 16 := by
      unfold RS.deny at hd ⊢
      rw [if_pos hw] at hd ⊢
      by_cases ho : s.off = true
      · rw [if_pos ho]
      · rw [if_neg ho] at hd; exact absurd rfl hd
    have ho : s.off = true := by
      unfold RS.deny at ed
      rw [if_pos hw] at ed
      by_cases ho : s.off = true
      · exact ho
      · rw [if_neg ho] at ed; cases ed
    rw [hw]
    have ED := Lib.hid ed
    obtain ⟨_, m1, m2, v, hw2⟩ := H2.out
    have c21 := hw2.c21
    simp only [ho] at c21
    clear ed hd hw ho hw2
    go_wp2_with fail
    go_ret2
    rw [ED.out]
    exact ⟨rfl, H2.out, K2.out⟩
  · have ed : s.deny D A = s.why D A := by unfold RS.deny; rw [if_neg hw]
    have ED := Lib.hid ed
    generalize s.why D A = y at *
    clear ed hd
    have t1 : (y = 0) = False := by simp [hw]
    go_wp2_with fail
    go_ret2
    rw [ED.out]
    exact ⟨rfl, H2.out, K2.out⟩

set_option maxRecDepth 100000 in
set_option maxHeartbeats 1600000 in
theorem read_ok {B : Nat} (w : World) (r : Nat) (s : RS) (d a : Nat) (h : RackAt B w r s) (hd : d < s.nd) (ha : a < s.ns) (hg : s.gone d = false) (ho : s.off = false) :
    Calls Tryz.prog 64 #[.pointer (some ⟨r, 0, none⟩), .int .i64 (d : Int), .int .i64 (a : Int)] w fun e w' => (∃ v, e = .returned (.tuple #[v, .int .i64 0]) ∧ w'.ownsRow w.heap.size 5 1 v 128 (rowL 128 (s.holds d a))) ∧ RackAt B w' r s ∧ Keep B w w' := by
  have H1 := Lib.hid (h.alloc (.cells #[.int .i64 (d : Int), .int .i64 (a : Int)] 84))
  have K1 := Lib.hid ((Keep.refl B w).alloc h.le (.cells #[.int .i64 (d : Int), .int .i64 (a : Int)] 84))
  have hwhy : s.why (d : Int) (a : Int) = 0 := by
    have e : s.isP (d : Int) (a : Int) = true := by simp [RS.isP, RS.isD]; omega
    unfold RS.why
    rw [if_pos e, Int.toNat_natCast, hg]
    rfl
  have b0 := Lib.hid (Blk.new w 84 #[.int .i64 (d : Int), .int .i64 (a : Int)])
  have hz := zero_sector
  clear h
  go_enter Tryz.func64, Tryz.ntmps64
  go_wp2_with fail
  refine (reach_any _ r s d a H1.out).mono ?_
  rintro e w1 ⟨rfl, h2, k2, _, _⟩
  have H2 := Lib.hid h2
  have K2 := Lib.hid (K1.out.trans k2)
  have b1 := k2.block b0.out rfl
  have hs1 : w.heap.size ≤ w1.heap.size := K2.out.below.size
  obtain ⟨_, m1, m2, v, hw2⟩ := h2
  have c21 := hw2.c21
  simp only [ho] at c21
  have p0 : w1.cell? ⟨w.heap.size, 0, none⟩ = some (.int .i64 (d : Int)) := b1.cell 0
  have p1 : w1.cell? ⟨w.heap.size, 1, none⟩ = some (.int .i64 (a : Int)) := b1.cell 1
  clear k2 hw2 b1
  rw [hwhy]
  clear hwhy
  go_wp2_with fail
  refine (holds_any _ r s d a H2.out hd ha).mono ?_
  rintro e w2 ⟨rfl, h3, k3⟩
  have H3 := Lib.hid h3
  have K3 := Lib.hid (K2.out.trans k3)
  have hs2 : w.heap.size ≤ w2.heap.size := K3.out.below.size
  clear h3 k3 p0 p1 c21
  go_wp2_with (with_reducible refine wpList_allocX ?_ 87 ?_ _ (alloc_sector _) ?_; rfl; rfl; refine of_hid ?_)
  refine Lib.hid ?_
  refine wpList_storeBlk rfl 87 (.tmp 10) (.tmp 26) rfl w2.heap.size (secA zeros) (secA (s.holds d a)) rfl rfl (Blk.new _ _ _) (by rw [secA_size]; exact isize_sector) (by rw [secA_size, secA_size]) (secA_one _) ?_
  intro w4 hb4 hg4 hs4
  have hs4' : w2.heap.size + 1 = w4.heap.size := by rw [hs4]; simp
  have H4 := Lib.hid ((H3.out.alloc _).grownFar (Blk.new _ _ _) rfl hg4)
  have K4 := Lib.hid ((K3.out.alloc H3.out.le _).grownNew hg4 (Nat.le_trans H3.out.le (Nat.le_refl _)) (H3.out.alloc _).le hs2)
  have hx : Hid (∀ j, j < 128 → w4.cell? ⟨w2.heap.size, j, none⟩ = some (.int .u8 ((s.holds d a j : Nat) : Int))) := fun j hj => (hb4.cell j).trans (rowArr_get hj)
  clear hb4 hg4 hs4
  go_wp2_with fail
  refine (clone_any _ _ 128 _ (s.holds d a) hx.out (by omega)).mono ?_
  rintro e w5 ⟨v5, rfl, ho5, hb5⟩
  have H5 := Lib.hid (H4.out.below hb5)
  have K5 := Lib.hid (K4.out.new hb5 H4.out.le)
  have O5 := Lib.hid (own_base ho5 (B' := w.heap.size) (by omega))
  clear ho5 hb5
  go_wp2_with fail
  go_ret2
  exact ⟨⟨_, rfl, O5.out⟩, H5.out, K5.out⟩
end Go.Proofs.YthioanenljpclaaGreatDoor
