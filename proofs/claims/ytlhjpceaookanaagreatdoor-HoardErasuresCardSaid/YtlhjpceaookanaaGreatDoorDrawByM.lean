/-
  'rack.New' and 'rack.holds' by contracts. Conditions: the rack is one, the place is one of its own.
-/
import Derived.Test.YtlhjpceaookanaaGreatDoorRackAwaitM
import Derived.WalkSpells
import Derived.Laws.AppendOwn
import Derived.OrdersHeld
import Derived.StillTail
import Derived.Test.YtlhjpceaookanaaGreatDoorRackMapM
namespace Go.Proofs.YtlhjpceaookanaaGreatDoor
set_option maxRecDepth 100000
open Go.RowKit
set_option linter.unusedVariables false

def RS.new (nd ns : Nat) : RS := ⟨nd, ns, fun _ _ => zeros, 0, fun _ => ⟨0, 0, zeros⟩, fun _ => false, false, false, 0, 0⟩

set_option maxRecDepth 100000 in
set_option maxHeartbeats 1600000 in
theorem new_any (w : World) (nd ns : Nat) (h1 : 1 ≤ nd) (h2 : nd ≤ 16) (h3 : 1 ≤ ns) (h4 : ns ≤ 2000) :
    Calls Tryz.prog 17 #[.int .i64 (nd : Int), .int .i64 (ns : Int)] w fun e w' => (∃ r, e = .returned (.tuple #[.pointer (some ⟨r, 0, none⟩), .int .i64 0]) ∧ RackAt w.heap.size w' r (RS.new nd ns)) ∧ Keep w.heap.size w w' := by
  have t1 : ((nd : Int) < 1) = False := by simp; omega
  have t2 : ((16 : Int) < (nd : Int)) = False := by simp; omega
  have t3 : ((ns : Int) < 1) = False := by simp; omega
  have t4 : ((2000 : Int) < (ns : Int)) = False := by simp; omega
  have d1 : decide ((nd : Int) < 1) = false := by simp; omega
  have d2 : decide ((16 : Int) < (nd : Int)) = false := by simp; omega
  have d3 : decide ((ns : Int) < 1) = false := by simp; omega
  have d4 : decide ((2000 : Int) < (ns : Int)) = false := by simp; omega
  have hmk : ∀ w : World, (Instr.makeMap 57 none).run Tryz.prog w = .ok (.map (some w.heap.size)) (w.alloc (.map #[] 0)) := fun w => by kernel_rfl
  go_enter Tryz.func17, Tryz.ntmps17
  go_wp2_with fail
  refine (await_any w.heap.size _ (w.heap.size + 1) w.heap.size none 0 0 (RS.new nd ns) (RS.new nd ns) ⟨rfl, rfl, rfl, rfl, rfl, rfl⟩ _ (blk_new2 w (.map #[] 0) _ _) rfl ?_ (by omega) (by omega) (by omega) rfl ⟨0, _, Nat.le_refl _, (MapFp.made w).alloc _, fun d a _ _ => rfl⟩ ⟨rfl, .inl ⟨rfl, rfl⟩⟩
    ⟨h1, h2, h3, h4, by show 0 ≤ _; omega, by show 0 ≤ _; omega, fun i hi => absurd hi (Nat.not_lt_zero _), fun d a j hj => by show 0 < 256; omega⟩).mono ?_
  · intro j hj j3 j4
    repeat (rcases j with _ | j; · first | rfl | exact absurd rfl j4)
    omega
  rintro e w2 ⟨rfl, hra, hk⟩
  have HR := Lib.hid hra
  have HK := Lib.hid hk
  clear hra hk
  go_wp2_with fail
  go_ret2
  exact ⟨⟨_, rfl, HR.out⟩, (((Keep.refl _ w).alloc (Nat.le_refl _) _).alloc (by simp) _).trans HK.out⟩

set_option maxRecDepth 100000 in
set_option maxHeartbeats 1600000 in
theorem holds_any {B : Nat} (w : World) (r : Nat) (s : RS) (d a : Nat) (h : RackAt B w r s) (hd : d < s.nd) (ha : a < s.ns) :
    Calls Tryz.prog 28 #[.pointer (some ⟨r, 0, none⟩), placeV d a] w fun e w' => e = .returned (.agg (secA (s.holds d a))) ∧ RackAt B w' r s ∧ Keep B w w' := by
  have H2 := (h.alloc (.cells #[.int .i64 (d : Int), .int .i64 (a : Int)] 64)).alloc (.cells (secA zeros) 68)
  have K2 := Lib.hid (((Keep.refl B w).alloc h.le (.cells #[.int .i64 (d : Int), .int .i64 (a : Int)] 64)).alloc (h.alloc _).le (.cells (secA zeros) 68))
  have b1 := (Blk.new w 64 #[.int .i64 (d : Int), .int .i64 (a : Int)]).alloc (.cells (secA zeros) 68)
  have b2 := blk_new2 w (.cells #[.int .i64 (d : Int), .int .i64 (a : Int)] 64) (secA zeros) 68
  have hB := h.le
  have hz := zero_sector
  unfold placeV
  clear h
  go_enter Tryz.func28, Tryz.ntmps28
  go_wp2_with fail
  generalize (w.alloc (.cells #[.int .i64 (d : Int), .int .i64 (a : Int)] 64)).alloc (.cells (secA zeros) 68) = w2 at *
  obtain ⟨h0, m1, m2, v, hw⟩ := H2
  have HW := Lib.hid hw
  have H0 := Lib.hid h0
  have B1 := Lib.hid b1
  have B2 := Lib.hid b2
  have c2 := hw.c2
  have c3 := hw.c3
  have c4 := hw.c4
  have p0 : w2.cell? ⟨w.heap.size, 0, none⟩ = some (.int .i64 (d : Int)) := b1.cell 0
  have p1 : w2.cell? ⟨w.heap.size, 1, none⟩ = some (.int .i64 (a : Int)) := b1.cell 1
  have hlk := fun n => (hw.newest.drewN n).look Tryz.underlying59 (zero_int _) (show d < 4611686018427387904 by have := h0.nd2; omega) (show a < 4611686018427387904 by have := h0.ns2; omega) true
  simp only [if_true, pkey] at hlk
  clear hw h0 b1 b2
  cases hni : newIn s.W d a s.nw with
  | some i =>
    have eh : s.holds d a = (s.W i).x := by unfold RS.holds; rw [hni]
    have EH := Lib.hid eh
    simp only [hni, Option.map_some, Option.getD_some, Option.isSome_some, iv] at hlk
    have hi := (newIn_lt hni).1
    obtain ⟨g, cap, rfl⟩ := own_slice HW.out.row (by omega)
    have hls := fun n => load_rowS (HW.out.drewN n).row hi
    have hnw := HW.out.nw_le
    have hcost := H0.out.cost
    have i1 : (0 : Int) ≤ (i : Int) := by omega
    have i2 : (i : Int) < (s.nw : Int) := by omega
    clear hni eh
    go_quiet (fail)
    go_wp2_with (refine wpList_loadX rfl 68 _ rfl _ _ rfl (hls _) ?_; refine of_hid ?_)
    refine Lib.hid ?_
    refine wpList_storeBlk rfl 68 (.tmp 4) (.tmp 24) rfl (w.heap.size + 1) (secA zeros) (secA (s.W i).x) rfl rfl (B2.out.drewN _) (by rw [secA_size]; exact isize_sector) (by rw [secA_size, secA_size]) (secA_one _) ?_
    intro w4 hb4 hg4 hs4
    have H4 := Lib.hid ((HW.out.drewN _).grownFar (B2.out.drewN _) rfl hg4)
    have K4 := Lib.hid ((K2.out.drewN _).grownNew hg4 (by omega) (Nat.le_trans HW.out.le (Nat.le_refl _)) (by omega))
    have hlv := loadVar_blk hb4 Tryz.underlying68 rfl (by rw [secA_size]; exact isize_sector)
    clear hb4 hg4 hs4 hls hlk
    have HL := Lib.hid hlv
    clear hlv
    go_wp2_with fail
    refine bodyPost_ret (results_cell rfl rfl HL.out) rfl ?_
    rw [EH.out]
    exact ⟨rfl, ⟨H0.out, m1, m2, _, H4.out⟩, K4.out⟩
  | none =>
    have eh : s.holds d a = s.last d a := by unfold RS.holds; rw [hni]
    have EH := Lib.hid eh
    simp only [hni, Option.map_none, Option.getD_none, Option.isSome_none] at hlk
    obtain ⟨nl, F, f1, f2, f3⟩ := HW.out.last
    have hl1 : ∀ n, (Instr.lookup 57 (.map (some m1)) (.agg #[.int .i64 (d : Int), .int .i64 (a : Int)]) false).run Tryz.prog (w2.drewN n) = .ok (.agg (secA (s.last d a))) (w2.drewN n) := by
      intro n
      have := (f2.drewN n).look Tryz.underlying57 (zero_sector _) (show d < 4611686018427387904 by have := H0.out.nd2; omega) (show a < 4611686018427387904 by have := H0.out.ns2; omega) false
      rw [f3 d a (by have := H0.out.nd2; omega) (by have := H0.out.ns2; omega)] at this
      exact this
    clear hni eh f1 f2 f3
    go_quiet (fail)
    go_wp2_with fail
    refine region_quiet_tail 6 (by kernel_rfl) (by kernel_rfl) ?_
    simp only [List.take_succ_cons, List.take_zero, List.drop_succ_cons, List.drop_zero]
    simp only [World.drewN_drewN]
    repeat (quiet_step (fail))
    refine wpQuiet_nil ?_
    rintro _ ⟨nq, rfl⟩
    refine wpList_storeBlk rfl 68 (.tmp 4) (.tmp 30) rfl (w.heap.size + 1) (secA zeros) (secA (s.last d a)) rfl rfl (B2.out.drewN _) (by rw [secA_size]; exact isize_sector) (by rw [secA_size, secA_size]) (secA_one _) ?_
    intro w4 hb4 hg4 hs4
    have H4 := Lib.hid ((HW.out.drewN _).grownFar (B2.out.drewN _) rfl hg4)
    have K4 := Lib.hid ((K2.out.drewN _).grownNew hg4 (by omega) (Nat.le_trans HW.out.le (Nat.le_refl _)) (by omega))
    have HL := Lib.hid (loadVar_blk hb4 Tryz.underlying68 rfl (by rw [secA_size]; exact isize_sector))
    clear hb4 hg4 hs4 hl1 hlk
    go_wp2_with fail
    refine bodyPost_ret (results_cell rfl rfl HL.out) rfl ?_
    rw [EH.out]
    exact ⟨rfl, ⟨H0.out, m1, m2, _, H4.out⟩, K4.out⟩
end Go.Proofs.YtlhjpceaookanaaGreatDoor
namespace Go.Proofs.YtlhjpceaookanaaGreatDoor
set_option maxRecDepth 100000
open Go.RowKit
set_option linter.unusedVariables false

theorem own_base {w : World} {B B' n c : Nat} {e : TypeId} {v : Value} {xs : List Value} (h : w.ownsRow B e c v n xs) (hb : B' ≤ B) : w.ownsRow B' e c v n xs := by
  refine ⟨h.1, ?_⟩
  rcases h.2 with e | ⟨g, cap, cur, e, h1, h2⟩
  · exact .inl e
  · exact .inr ⟨g, cap, cur, e, by omega, h2⟩
def rowL (n : Nat) (X : Nat → Nat) : List Value := (List.range n).map fun j => Value.int .u8 ((X j : Nat) : Int)
theorem rowL_length (n : Nat) (X : Nat → Nat) : (rowL n X).length = n := by simp [rowL]
theorem rowL_get {n j : Nat} (X : Nat → Nat) (h : j < n) : (rowL n X)[j]? = some (.int .u8 ((X j : Nat) : Int)) := by simp [rowL, h]

set_option maxRecDepth 100000 in
set_option maxHeartbeats 1600000 in
theorem clone_any (w : World) (g n c : Nat) (X : Nat → Nat) (hx : ∀ j, j < n → w.cell? ⟨g, j, none⟩ = some (.int .u8 ((X j : Nat) : Int))) (hn : n ≤ 70000) :
    Calls Tryz.prog 46 #[.slice (some ⟨g, 0, none⟩) n c] w fun e w' => ∃ v, e = .returned v ∧ w'.ownsRow w.heap.size 5 1 v n (rowL n X) ∧ Below w.heap.size w w' := by
  obtain ⟨i0, hi, hz0, hz1, hz2⟩ := info_parts info_u8
  have HX := Lib.hid hx
  clear hx
  have he : ∀ w : World, (binOp .eql 36 (.slice (some ⟨g, 0, none⟩) n c) (.slice none 0 0)).run Tryz.prog w = .ok (.bool false) w := by
    intro w
    simp only [binOp]
    simp [Op.equal, Op.maxDepth, Lib.run_equalIn_slice_nil w 9999 36 _ _ n c 0 0 Tryz.underlying36]
  go_enter Tryz.func46, Tryz.ntmps46
  have OW : Hid ((w.alloc (.cells #[] 5)).ownsRow w.heap.size 5 1 (.slice (some ⟨w.heap.size, 0, none⟩) 0 0) 0 []) :=
    ⟨rfl, .inr ⟨w.heap.size, 0, #[], rfl, Nat.le_refl _, (Blk.new w 5 #[]), Nat.le_refl _, by simp [maxLen], rfl, rfl⟩⟩
  go_wp2_with (at_builtin; refine wpList_append_own _ rfl (.tmp 5) (.tmp 6) 36 rfl w.heap.size 5 i0 (.int .u8 0) 1 1 Tryz.underlying36 hi hz0 hz1 hz2 rfl (by decide) _ _ _ rfl OW.out ⟨g, 0, none⟩ n c (rowL n X) rfl (by simp [rowL_length]) ?_ ?_ (by simp only [maxLen]; omega) (by omega) (by simp) ?_)
  · intro j u hj
    have hjn : j < n := by have := (List.getElem?_eq_some_iff.1 hj).1; rw [rowL_length] at this; exact this
    rw [rowL_get X hjn] at hj
    injection hj with hj
    subst hj
    have h1 := HX.out j hjn
    rw [add_plain, Nat.zero_add]
    exact ((w.cell?_alloc_old _ _ (Nat.ne_of_lt (block_lt_of_cell h1))).trans h1)
  · intro u hu
    simp only [rowL, List.mem_map] at hu
    obtain ⟨j, _, rfl⟩ := hu
    rfl
  · intro v' w2 hv2 hg2 _
    have HV := Lib.hid hv2
    have HG := Lib.hid hg2
    clear hv2 hg2
    go_wp2_with fail
    go_ret
    refine ⟨v', rfl, ?_, ?_⟩
    · exact HV.out
    · exact ((Below.refl _ w).alloc (Nat.le_refl _) _).grown HG.out (by simp) (fun k hk => by
        injection hk with hk
        exact Nat.le_of_eq hk)

/-- what Read answers where it answers no bytes -/
def RS.deny (s : RS) (D A : Int) : Int := if s.why D A = 0 then (if s.off then 16 else 0) else s.why D A

set_option maxRecDepth 100000 in
set_option maxHeartbeats 1600000 in
theorem read_no {B : Nat} (w : World) (r : Nat) (s : RS) (D A : Int) (h : RackAt B w r s) (hd : s.deny D A ≠ 0) :
    Calls Tryz.prog 13 #[.pointer (some ⟨r, 0, none⟩), .int .i64 D, .int .i64 A] w fun e w' => e = .returned (.tuple #[.slice none 0 0, .int .i64 (s.deny D A)]) ∧ RackAt B w' r s ∧ Keep B w w' := by
  have H1 := Lib.hid (h.alloc (.cells #[.int .i64 D, .int .i64 A] 64))
  have K1 := Lib.hid ((Keep.refl B w).alloc h.le (.cells #[.int .i64 D, .int .i64 A] 64))
  clear h
  go_enter Tryz.func13, Tryz.ntmps13
  go_wp2_with fail
  refine (reach_any _ r s D A H1.out).mono ?_
  rintro e w1 ⟨rfl, h2, k2, _, _⟩
  have H2 := Lib.hid h2
  have K2 := Lib.hid (K1.out.trans k2)
  clear h2 k2
  by_cases hw : s.why D A = 0
  · have ed : s.deny D A = 16 := by
      unfold RS.deny at hd ⊢
      rw [if_pos hw] at hd ⊢
      by_cases ho : s.off = true
      · rw [if_pos ho]
      · rw [if_neg ho] at hd; exact absurd rfl hd
    have ho : s.off = true := by
      unfold RS.deny at ed
      rw [if_pos hw] at ed
      by_cases ho : s.off = true
      · exact ho
      · rw [if_neg ho] at ed; cases ed
    rw [hw]
    have ED := Lib.hid ed
    obtain ⟨_, m1, m2, v, hw2⟩ := H2.out
    have c21 := hw2.c21
    simp only [ho] at c21
    clear ed hd hw ho hw2
    go_wp2_with fail
    go_ret2
    rw [ED.out]
    exact ⟨rfl, H2.out, K2.out⟩
  · have ed : s.deny D A = s.why D A := by unfold RS.deny; rw [if_neg hw]
    have ED := Lib.hid ed
    generalize s.why D A = y at *
    clear ed hd
    have t1 : (y = 0) = False := by simp [hw]
    go_wp2_with fail
    go_ret2
    rw [ED.out]
    exact ⟨rfl, H2.out, K2.out⟩

set_option maxRecDepth 100000 in
set_option maxHeartbeats 1600000 in
theorem read_ok {B : Nat} (w : World) (r : Nat) (s : RS) (d a : Nat) (h : RackAt B w r s) (hd : d < s.nd) (ha : a < s.ns) (hg : s.gone d = false) (ho : s.off = false) :
    Calls Tryz.prog 13 #[.pointer (some ⟨r, 0, none⟩), .int .i64 (d : Int), .int .i64 (a : Int)] w fun e w' => (∃ v, e = .returned (.tuple #[v, .int .i64 0]) ∧ w'.ownsRow w.heap.size 5 1 v 128 (rowL 128 (s.holds d a))) ∧ RackAt B w' r s ∧ Keep B w w' := by
  have H1 := Lib.hid (h.alloc (.cells #[.int .i64 (d : Int), .int .i64 (a : Int)] 64))
  have K1 := Lib.hid ((Keep.refl B w).alloc h.le (.cells #[.int .i64 (d : Int), .int .i64 (a : Int)] 64))
  have hwhy : s.why (d : Int) (a : Int) = 0 := by
    have e : s.isP (d : Int) (a : Int) = true := by simp [RS.isP, RS.isD]; omega
    unfold RS.why
    rw [if_pos e, Int.toNat_natCast, hg]
    rfl
  have b0 := Lib.hid (Blk.new w 64 #[.int .i64 (d : Int), .int .i64 (a : Int)])
  have hz := zero_sector
  clear h
  go_enter Tryz.func13, Tryz.ntmps13
  go_wp2_with fail
  refine (reach_any _ r s d a H1.out).mono ?_
  rintro e w1 ⟨rfl, h2, k2, _, _⟩
  have H2 := Lib.hid h2
  have K2 := Lib.hid (K1.out.trans k2)
  have b1 := k2.block b0.out rfl
  have hs1 : w.heap.size ≤ w1.heap.size := K2.out.below.size
  obtain ⟨_, m1, m2, v, hw2⟩ := h2
  have c21 := hw2.c21
  simp only [ho] at c21
  have p0 : w1.cell? ⟨w.heap.size, 0, none⟩ = some (.int .i64 (d : Int)) := b1.cell 0
  have p1 : w1.cell? ⟨w.heap.size, 1, none⟩ = some (.int .i64 (a : Int)) := b1.cell 1
  clear k2 hw2 b1
  rw [hwhy]
  clear hwhy
  go_wp2_with fail
  refine (holds_any _ r s d a H2.out hd ha).mono ?_
  rintro e w2 ⟨rfl, h3, k3⟩
  have H3 := Lib.hid h3
  have K3 := Lib.hid (K2.out.trans k3)
  have hs2 : w.heap.size ≤ w2.heap.size := K3.out.below.size
  clear h3 k3 p0 p1 c21
  go_wp2_with (with_reducible refine wpList_allocX ?_ 68 ?_ _ (alloc_sector _) ?_; rfl; rfl; refine of_hid ?_)
  refine Lib.hid ?_
  refine wpList_storeBlk rfl 68 (.tmp 10) (.tmp 26) rfl w2.heap.size (secA zeros) (secA (s.holds d a)) rfl rfl (Blk.new _ _ _) (by rw [secA_size]; exact isize_sector) (by rw [secA_size, secA_size]) (secA_one _) ?_
  intro w4 hb4 hg4 hs4
  have hs4' : w2.heap.size + 1 = w4.heap.size := by rw [hs4]; simp
  have H4 := Lib.hid ((H3.out.alloc _).grownFar (Blk.new _ _ _) rfl hg4)
  have K4 := Lib.hid ((K3.out.alloc H3.out.le _).grownNew hg4 (Nat.le_trans H3.out.le (Nat.le_refl _)) (H3.out.alloc _).le hs2)
  have hx : Hid (∀ j, j < 128 → w4.cell? ⟨w2.heap.size, j, none⟩ = some (.int .u8 ((s.holds d a j : Nat) : Int))) := fun j hj => (hb4.cell j).trans (rowArr_get hj)
  clear hb4 hg4 hs4
  go_wp2_with fail
  refine (clone_any _ _ 128 _ (s.holds d a) hx.out (by omega)).mono ?_
  rintro e w5 ⟨v5, rfl, ho5, hb5⟩
  have H5 := Lib.hid (H4.out.below hb5)
  have K5 := Lib.hid (K4.out.new hb5 H4.out.le)
  have O5 := Lib.hid (own_base ho5 (B' := w.heap.size) (by omega))
  clear ho5 hb5
  go_wp2_with fail
  go_ret2
  exact ⟨⟨_, rfl, O5.out⟩, H5.out, K5.out⟩
end Go.Proofs.YtlhjpceaookanaaGreatDoor
namespace Go.Proofs.YtlhjpceaookanaaGreatDoor
set_option maxRecDepth 100000
open Go

section
variable {P : Program} {md : Region.Mode} {ops : Array Oper} {Q : Exit → Act → World → Prop} {S : World → Prop} {z : Nat}

/-- Whatever order is picked from here on; S holds behind every operation but the last one, z. -/
def AnyZ (P : Program) (md : Region.Mode) (ops : Array Oper) (Q : Exit → Act → World → Prop) (S : World → Prop) (z : Nat) : Nat → Array Bool → Act → World → Prop
  | 0, listed, a, w => Region.ready md ops listed = [] ∧ Q .normal a w
  | n + 1, listed, a, w => (Region.ready md ops listed = [] → Q .normal a w) ∧
    ∀ i ∈ Region.ready md ops listed, wpOp P ops Q i (fun a' w' => (i ≠ z → S w') ∧ AnyZ P md ops Q S z n (listed.setIfInBounds i true) a' w') a w
theorem AnyZ.any : ∀ (n : Nat) (listed : Array Bool) (a : Act) (w : World), AnyZ P md ops Q S z n listed a w → wpAny P md ops Q n listed a w
  | 0, _, _, _, h => h
  | n + 1, _, _, _, h => ⟨h.1, fun i hi => wpOp_mono (fun a' w' h' => AnyZ.any n _ a' w' h'.2) (h.2 i hi)⟩

theorem AnyZ.first {i : Nat} {oi : Oper} {v : Value} (hi : ops[i]? = some oi) (hsel : ∀ (j : Nat) (o : Oper) cs b, ops[j]? = some o → o.op ≠ .select cs b)
    (hQ : ∀ c a w, Q (.panic c) (a.put oi.dst v) w → Q (.panic c) a w) (hz : (Region.waitsFor md ops z i || decide (ops.size ≤ z)) = true) :
    ∀ (n : Nat) (listed : Array Bool) (a : Act) (w : World),
      (∀ j oj, ops[j]? = some oj → j ≠ i → listed.getD j true = false → (∀ e ∈ oj.after, Region.binds md e = true → e.on ≠ i) → oi.apart ops oj = true) →
      i ∈ Region.ready md ops listed → YieldsIf P ops S oi v a → S w →
      AnyZ P md ops Q S z n (listed.setIfInBounds i true) (a.put oi.dst v) w → AnyZ P md ops Q S z (n + 1) listed a w := by
  intro n
  induction n with
  | zero =>
    intro listed a w _ hr hy hS H
    refine ⟨fun h => (by rw [h] at hr; cases hr), fun j hj => ?_⟩
    by_cases hji : j = i
    · subst hji
      exact hy.wpOp hi hS ⟨fun _ => hS, H⟩
    · have h0 := ready_mono hj hji
      rw [H.1] at h0
      cases h0
  | succ n ih =>
    intro listed a w hfree hr hy hS H
    refine ⟨fun h => (by rw [h] at hr; cases hr), fun j hj => ?_⟩
    by_cases hji : j = i
    · subst hji
      exact hy.wpOp hi hS ⟨fun _ => hS, H⟩
    · have h1 := H.2 j (ready_mono hj hji)
      have hun := (mem_ready.1 hr).1
      obtain ⟨hjun, oj, hoj, hall⟩ := mem_ready.1 hj
      have hnot : ∀ e ∈ oj.after, Region.binds md e = true → e.on ≠ i := fun e he hb heq => by
        have h4 := hall e he hb
        rw [heq, getD_both hun] at h4
        cases h4
      have hjz : j ≠ z := by
        rintro rfl
        rcases Bool.or_eq_true _ _ |>.mp hz with hz | hz
        rotate_left
        · have h1 := (Array.getElem?_eq_some_iff.1 hoj).1
          have h2 := of_decide_eq_true hz
          omega
        obtain ⟨o', ho', e, he, hb, hon⟩ := Region.waitsFor_spec hz
        rw [hoj] at ho'
        injection ho' with ho'
        subst ho'
        exact hnot e he hb hon
      have h2 := wpOp_putIf hoj (hfree j oj hoj hji hjun hnot) (fun cs b => hsel i oi cs b hi) (fun cs b => hsel j oj cs b hoj) hQ hy h1
      refine wpOp_mono (fun a' w' h3 => ⟨fun _ => h3.2.1 hjz, ih (listed.setIfInBounds j true) a' w' (fun k ok hk hki hunk hno => ?_) (ready_mono hr (Ne.symm hji)) h3.1 (h3.2.1 hjz) ?_⟩) h2
      · refine hfree k ok hk hki ?_ hno
        by_cases hjk : j = k
        · subst hjk
          exact hjun
        · rw [getD_set_ne true hjk] at hunk
          exact hunk
      · rw [Array.setIfInBounds_comm _ _ hji]
        exact h3.2.2

/-- number i is taken first -/
theorem AnyZ.take {i : Nat} {oi : Oper} {v : Value} {n : Nat} {listed : Array Bool} {a : Act} {w : World} (hi : ops[i]? = some oi)
    (hs : Region.noSelect ops = true) (hf : Region.free md ops listed i = true) (hr : (Region.ready md ops listed).contains i = true) (hz : (Region.waitsFor md ops z i || decide (ops.size ≤ z)) = true)
    (hQ : ∀ c a w, Q (.panic c) (a.put oi.dst v) w → Q (.panic c) a w) (hy : YieldsIf P ops S oi v a) (hS : S w)
    (h : AnyZ P md ops Q S z n (listed.setIfInBounds i true) (a.put oi.dst v) w) : AnyZ P md ops Q S z (n + 1) listed a w :=
  AnyZ.first hi (Region.noSelect_spec hs) hQ hz n listed a w (Region.free_spec hi hf) (by simpa using hr) hy hS h
/-- only number i may come up -/
theorem AnyZ.one {i : Nat} {n : Nat} {listed : Array Bool} {a : Act} {w : World} (hr : Region.ready md ops listed = [i])
    (h : wpOp P ops Q i (fun a' w' => (i ≠ z → S w') ∧ AnyZ P md ops Q S z n (listed.setIfInBounds i true) a' w') a w) : AnyZ P md ops Q S z (n + 1) listed a w :=
  ⟨fun h0 => (by rw [hr] at h0; cases h0), fun j hj => by
    rw [hr] at hj
    simp at hj
    subst hj
    exact h⟩
theorem AnyZ.done {n : Nat} {listed : Array Bool} {a : Act} {w : World} (hr : Region.ready md ops listed = []) (h : Q .normal a w) : AnyZ P md ops Q S z n listed a w := by
  cases n with
  | zero => exact ⟨hr, h⟩
  | succ n => exact ⟨fun _ => h, fun i hi => (by rw [hr] at hi; cases hi)⟩
/-- the region, from the world behind the draw -/
theorem region_anyZ (S : World → Prop) (z : Nat) {id : Nat} {a : Act} {w : World} (hm : P.follows .mixedOrders = true) (h : AnyZ P .any ops Q S z ops.size (Array.replicate ops.size false) a w.drew) : (Code.region id ops true).wp P Q a w :=
  wp_region_any hm (AnyZ.any _ _ _ _ h)

/-- an operation that yields its value in every world that meets S -/
theorem yields_if {o : Oper} {v : Value} {a : Act} (hg : o.guard = none) (h : ∀ w, S w → (execOp a.eval o).run P w = .ok (.value v) w) : YieldsIf P ops S o v a :=
  .inl ⟨by simp [Region.wanted, hg], fun w hw => h w hw⟩
theorem wpOp_val {i : Nat} {o : Oper} {v : Value} {a : Act} {w w' : World} {K : Act → World → Prop} (hi : ops[i]? = some o) (hg : o.guard = none) (hl : (execOp a.eval o).run P w = .ok (.value v) w') (h : K (a.put o.dst v) w') : wpOp P ops Q i K a w := by
  have hw : Region.wanted o (yielded ops a.tmps) = true := by simp [Region.wanted, hg]
  unfold wpOp
  simp only [hi, hw, if_true, Oper.wp, hl, Oper.upon]
  exact .inl h
theorem wpOp_skip {i : Nat} {o : Oper} {a : Act} {w w' : World} {K : Act → World → Prop} (hi : ops[i]? = some o) (hg : o.guard = none) (hl : (execOp a.eval o).run P w = .ok .skip w') (h : K (a.put o.dst undef) w') : wpOp P ops Q i K a w := by
  have hw : Region.wanted o (yielded ops a.tmps) = true := by simp [Region.wanted, hg]
  unfold wpOp
  simp only [hi, hw, if_true, Oper.wp, hl, Oper.upon]
  exact .inl h
theorem wpOp_op {i : Nat} {o : Oper} {a : Act} {w : World} {K : Act → World → Prop} (hi : ops[i]? = some o) (hg : o.guard = none) (h : o.wp P a w K Q) : wpOp P ops Q i K a w := by
  have hw : Region.wanted o (yielded ops a.tmps) = true := by simp [Region.wanted, hg]
  unfold wpOp
  simp only [hi, hw, if_true]
  exact .inl h
end
end Go.Proofs.YtlhjpceaookanaaGreatDoor
namespace Go.Proofs.YtlhjpceaookanaaGreatDoor
open Go Go.RowKit
set_option maxRecDepth 100000

section
variable {P : Program} {md : Region.Mode} {ops : Array Oper} {Q : Exit → Act → World → Prop} {S : World → Prop} {z : Nat}
theorem load_one {w : World} {p : Addr} {v : Value} {t : TypeId} {d : TypeDesc} (hu : P.underlying t = some d) (hd : d.isRow = false) (hc : w.cell? p = some v) : (Instr.loadAt t (.pointer (some p))).run P w = .ok v w := by
  have hagg : (isAgg t).run P w = .ok false w := by
    unfold isAgg
    rw [Sem.run_bind, run_underlying hu w]
    cases d <;> simp_all
  simp [Instr.loadAt, Instr.sureAddr, loadVar, Sem.run_bind, hagg, hc]
theorem store_one {w : World} {p : Addr} {v : Value} {t : TypeId} (hi : (P.info? t).map (·.size) = some 1) (hv : v.cells = #[v]) (h1 : v.oneCell' = true) (hc : (w.cell? p).isSome = true) (hf : w.frozen? p = false) (ha : p.add 0 = p) : (Instr.storeAt t (.pointer (some p)) v).run P w = .ok () (w.setCell p v) := by
  cases hq : P.info? t with
  | none => simp [hq] at hi
  | some i =>
    have hs : i.size = 1 := by simpa [hq] using hi
    obtain ⟨x, hx⟩ := Option.isSome_iff_exists.1 hc
    simp [Instr.storeAt, Instr.sureAddr, storeVar, Sem.run_bind, sizeOf, typeInfo, hq, hs, hv, storeCells, run_store P w p v .plain h1, hx, hf, ha]
theorem exec_load {w : World} {o : Oper} {a : Act} {ty : TypeId} {x : Operand} {p v : Value} (ho : o.op = .load ty x) (hx : a.eval x = p) (hl : (Instr.loadAt ty p).run P w = .ok v w) : (execOp a.eval o).run P w = .ok (.value v) w := by
  unfold execOp
  simp only [ho, hx, hl, Sem.run_bind, Sem.run_pure, Result.andThen_ok]
theorem exec_store {w w' : World} {o : Oper} {a : Act} {ty : TypeId} {x y : Operand} {p v : Value} (ho : o.op = .store ty x y) (hx : a.eval x = p) (hy : a.eval y = v) (hl : (Instr.storeAt ty p v).run P w = .ok () w') : (execOp a.eval o).run P w = .ok .skip w' := by
  unfold execOp
  simp only [ho, hx, hy, hl, Sem.run_bind, Sem.run_pure, Result.andThen_ok]
theorem exec_buildSlice1 {w w' : World} {o : Oper} {a : Act} {ty : TypeId} {n i : Nat} {x : Operand} {u v : Value} (ho : o.op = .buildSlice ty n #[(i, x)]) (hx : a.eval x = u) (hl : (Instr.buildSlice ty n #[(i, u)]).run P w = .ok v w') : (execOp a.eval o).run P w = .ok (.value v) w' := by
  unfold execOp
  simp only [ho, List.map_toArray, List.map_cons, List.map_nil, hx, hl, Sem.run_bind, Sem.run_pure, Result.andThen_ok]
/-- the last of a region -/
theorem AnyZ.last_ {i n : Nat} {listed : Array Bool} {a : Act} {w : World} (hr : Region.ready md ops listed = [i]) (hd : Region.ready md ops (listed.setIfInBounds i true) = [])
    (hz : i = z) (h : wpOp P ops Q i (fun a' w' => Q .normal a' w') a w) : AnyZ P md ops Q S z (n + 1) listed a w :=
  AnyZ.one hr (wpOp_mono (fun _ _ h' => ⟨fun hne => absurd hz hne, AnyZ.done hd h'⟩) h)
end
end Go.Proofs.YtlhjpceaookanaaGreatDoor
