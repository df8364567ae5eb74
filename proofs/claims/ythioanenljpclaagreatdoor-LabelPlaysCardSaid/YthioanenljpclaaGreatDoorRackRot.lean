/-
  'rack.Rot' by contracts. Conditions: the rack is one.
-/
import Derived.Test.YthioanenljpclaaGreatDoorRackRotRowM
namespace Go.Proofs.YthioanenljpclaaGreatDoor
set_option maxRecDepth 100000
open Go.RowKit
set_option linter.unusedVariables false

/-- a rotten sector's bytes -/
def rotF (X : Nat → Nat) (n : Nat) (j : Nat) : Nat := if j = n % 128 then X j ^^^ (1 + n / 128 % 255) else X j
def RS.rotted (s : RS) (d a n : Nat) : RS :=
  match newIn s.W d a s.nw with
  | some i => { s with W := putW s.W i (rotF (s.W i).x n), cost := s.cost + 1 }
  | none => { s with last := fun d' a' => if d' = d ∧ a' = a then rotF (s.last d a) n else s.last d' a', cost := s.cost + 1 }
theorem rotted_some {s : RS} {d a n i : Nat} (h : newIn s.W d a s.nw = some i) : s.rotted d a n = { s with W := putW s.W i (rotF (s.W i).x n), cost := s.cost + 1 } := by
  unfold RS.rotted
  rw [h]
theorem rotted_none {s : RS} {d a n : Nat} (h : newIn s.W d a s.nw = none) : s.rotted d a n = { s with last := fun d' a' => if d' = d ∧ a' = a then rotF (s.last d a) n else s.last d' a', cost := s.cost + 1 } := by
  unfold RS.rotted
  rw [h]
theorem rotF_lt {X : Nat → Nat} {n j : Nat} (h : X j < 256) : rotF X n j < 256 := by
  unfold rotF
  split
  · exact xor_lt_256 h (by omega)
  · exact h
theorem RS.ok.rotted {s : RS} (h : s.ok) {d a n : Nat} (hc : s.cost + 1 ≤ 1000000) : (s.rotted d a n).ok := by
  cases hi : newIn s.W d a s.nw with
  | some i =>
    rw [rotted_some hi]
    refine ⟨h.nd1, h.nd2, h.ns1, h.ns2, h.left, hc, fun k hk => ?_, h.lp⟩
    have hk' : k < s.nw := hk
    show (putW s.W i (rotF (s.W i).x n) k).d < s.nd ∧ (putW s.W i (rotF (s.W i).x n) k).a < s.ns ∧ ∀ j, j < 128 → (putW s.W i (rotF (s.W i).x n) k).x j < 256
    unfold putW
    by_cases e : k = i
    · subst e
      rw [if_pos rfl]
      exact ⟨(h.wp k hk').1, (h.wp k hk').2.1, fun j hj => rotF_lt ((h.wp k hk').2.2 j hj)⟩
    · rw [if_neg e]
      exact h.wp k hk'
  | none =>
    rw [rotted_none hi]
    refine ⟨h.nd1, h.nd2, h.ns1, h.ns2, h.left, hc, h.wp, fun d' a' j hj => ?_⟩
    show (if d' = d ∧ a' = a then rotF (s.last d a) n else s.last d' a') j < 256
    split
    · exact rotF_lt (h.lp d a j hj)
    · exact h.lp d' a' j hj

section
variable {B : Nat} {w w' : World} {r m1 m2 : Nat} {v : Value} {s : RS}
theorem RackK.rotSome {g i cap : Nat} {X : Nat → Nat} (h : RackW B w r m1 m2 (.slice (some ⟨g, 0, none⟩) s.nw cap) s) (hi : i < s.nw) :
    RackW B (w.setCells g (i * 130 + 2) (secA X).toList) r m1 m2 (.slice (some ⟨g, 0, none⟩) s.nw cap) { s with W := putW s.W i X, cost := s.cost + 1 } := by
  have hg := grown_setCells g (secA X).toList (i * 130 + 2) w
  have e0 : (Value.slice (some ⟨g, 0, none⟩) s.nw cap).ownBlock = some g := rfl
  obtain ⟨n, F, f1, f2, f3⟩ := h.last
  refine ⟨h.blk.grown hg (fun e => h.row_ne (e0.trans e.symm)), h.hr, h.h1, h.h2, h.ne, ⟨n, F, by show n + s.nw ≤ s.cost + 1; omega, f2.grown hg (fun e => h.row_ne1 (e0.trans e.symm)), f3⟩, (h.newest.grown hg (fun e => h.row_ne2 (e0.trans e.symm))).congr fun d a _ _ => ?_, (row_put h.row hi).1⟩
  show (newIn s.W d a s.nw).map iv = (newIn (putW s.W i X) d a s.nw).map iv
  rw [newIn_congr (W := putW s.W i X) (V := s.W) (fun k _ => by
    unfold putW
    by_cases e : k = i
    · rw [if_pos e, e]; exact ⟨rfl, rfl⟩
    · rw [if_neg e]; exact ⟨rfl, rfl⟩)]
theorem RackK.rotNone {n' d a : Nat} {F : Nat → Nat → Option Value} {Y : Nat → Nat} (h : RackW B w r m1 m2 v s) (f1 : n' + s.nw ≤ s.cost)
    (f3 : ∀ d a, d < 4611686018427387904 → a < 4611686018427387904 → (F d a).getD (.agg (secA zeros)) = .agg (secA (s.last d a)))
    (hg : w.grownBy w' (some m1)) (hm : MapS w' m1 (n' + 1) (putF F d a (.agg (secA Y)))) : RackW B w' r m1 m2 v { s with last := fun d' a' => if d' = d ∧ a' = a then Y else s.last d' a', cost := s.cost + 1 } := by
  refine ⟨h.blk.grown hg (fun e => h.ne1 (by injection e with e; exact e.symm)), h.hr, h.h1, h.h2, h.ne, ⟨n' + 1, _, by show n' + 1 + s.nw ≤ s.cost + 1; omega, hm, fun d' a' hd ha => ?_⟩, h.newest.grown hg (fun e => h.ne (by injection e with e; exact e.symm)), h.row.1, ?_⟩
  · show _ = Value.agg (secA (if d' = d ∧ a' = a then Y else s.last d' a'))
    unfold putF
    by_cases e1 : d' = d ∧ a' = a
    · rw [if_pos e1, if_pos e1]
      rfl
    · rw [if_neg e1, if_neg e1]
      exact f3 d' a' hd ha
  · rcases h.row.2 with e | ⟨g, cap, cur, rfl, g1, g2, g3⟩
    · exact .inl e
    · exact .inr ⟨g, cap, cur, rfl, g1, (hg.block g (Array.getElem?_eq_some_iff.1 g2).1 (fun e => h.row_ne1 (by rw [← e]; rfl))).trans g2, g3⟩
end

set_option maxRecDepth 100000 in
set_option maxHeartbeats 1600000 in
theorem rot_ok {B : Nat} (w : World) (r : Nat) (s : RS) (d a n : Nat) (h : RackAt B w r s) (hd : d < s.nd) (ha : a < s.ns) (hg : s.gone d = false) (hn : n ≤ 9223372036854775807) (hcost : s.cost + 1 ≤ 1000000) :
    Calls Tryz.prog 18 #[.pointer (some ⟨r, 0, none⟩), .int .i64 (d : Int), .int .i64 (a : Int), .int .i64 (n : Int)] w fun e w' => e = .returned (.int .i64 0) ∧ RackAt B w' r (s.rotted d a n) ∧ Keep B w w' := by
  have H1 := Lib.hid (h.alloc (.cells #[.int .i64 (d : Int), .int .i64 (a : Int)] 84))
  have K1 := Lib.hid ((Keep.refl B w).alloc h.le (.cells #[.int .i64 (d : Int), .int .i64 (a : Int)] 84))
  have hwhy : s.why (d : Int) (a : Int) = 0 := by
    have e : s.isP (d : Int) (a : Int) = true := by simp [RS.isP, RS.isD]; omega
    unfold RS.why
    rw [if_pos e, Int.toNat_natCast, hg]
    rfl
  have OKC := Lib.hid (h.1.rotted (d := d) (a := a) (n := n) hcost)
  have hxl : s.holds d a (n % 128) < 256 := by
    have hj : n % 128 < 128 := by omega
    unfold RS.holds
    cases hi : newIn s.W d a s.nw with
    | some i => exact (h.1.wp i (newIn_lt hi).1).2.2 _ hj
    | none => exact h.1.lp d a _ hj
  have b0 := Lib.hid (Blk.new w 84 #[.int .i64 (d : Int), .int .i64 (a : Int)])
  have hnn : (0 : Int) ≤ (n : Int) := by omega
  have hz := zero_sector
  have hB := h.le
  have hps : w.heap.size < w.heap.size + 1 := by omega
  clear h
  go_enter Tryz.func18, Tryz.ntmps18
  go_wp2_with fail
  refine (reach_any _ r s d a H1.out).mono ?_
  rintro e w2 ⟨rfl, h2, k2, _, n2⟩
  have H2 := Lib.hid h2
  have K2 := Lib.hid (K1.out.trans k2)
  have b2 := Lib.hid (b0.out.new_ n2)
  have p0 : w2.cell? ⟨w.heap.size, 0, none⟩ = some (.int .i64 (d : Int)) := b2.out.cell 0
  have p1 : w2.cell? ⟨w.heap.size, 1, none⟩ = some (.int .i64 (a : Int)) := b2.out.cell 1
  clear h2 k2 n2 H1 K1 b0
  rw [hwhy]
  clear hwhy
  go_wp2_with fail
  refine (holds_any w2 r s d a H2.out hd ha).mono ?_
  rintro e w3 ⟨rfl, h3, k3⟩
  have K3 := Lib.hid (K2.out.trans k3)
  have b3 := Lib.hid (k3.block b2.out rfl)
  clear p0 p1 b2 k3 K2 H2
  obtain ⟨h30, m1, m2, v, hw3⟩ := h3
  have OK := Lib.hid h30
  have HW3 := Lib.hid hw3
  have hle3 : B ≤ w3.heap.size := hw3.le
  clear h30 hw3
  go_wp2_with (refine wpList_allocX rfl 87 rfl _ (alloc_sector _) ?_; refine of_hid ?_)
  refine Lib.hid ?_
  refine wpList_storeX rfl 87 (.tmp 11) (.tmp 27) rfl (.pointer (some ⟨w3.heap.size, 0, none⟩)) (.agg (secA (s.holds d a))) rfl rfl (store_newS w3 zeros (s.holds d a)) ?_
  have hbx := Lib.hid (Blk.new w3 87 (secA (s.holds d a)))
  have HW4 := Lib.hid (HW3.out.alloc (.cells (secA (s.holds d a)) 87))
  have K4 := Lib.hid (K3.out.alloc hle3 (.cells (secA (s.holds d a)) 87))
  have b4 := Lib.hid (b3.out.alloc (.cells (secA (s.holds d a)) 87))
  have hle4 : B ≤ (w3.alloc (.cells (secA (s.holds d a)) 87)).heap.size := HW4.out.le
  have hbs := hbx.out.lt
  have hbB : B ≤ w3.heap.size := hle3
  have hbw : w.heap.size < w3.heap.size := b3.out.lt
  clear HW3 K3 b3 hz
  generalize w3.heap.size = bs at *
  generalize w3.alloc (.cells (secA (s.holds d a)) 87) = w4 at *
  generalize hbp : w.heap.size = bp at *
  have HBP := Lib.hid hbp
  clear hbp
  have HS8 : Hid (Blk w4 bs 87 (secA (s.holds d a))) := hbx
  have HST : Hid ((Instr.storeAt 5 (.pointer (some ⟨bs, n % 128, none⟩)) (.int .u8 ((s.holds d a (n % 128) ^^^ (1 + n / 128 % 255) : Nat) : Int))).run Tryz.prog w4.drew = .ok () (w4.drew.setCell ⟨bs, n % 128, none⟩ (.int .u8 ((s.holds d a (n % 128) ^^^ (1 + n / 128 % 255) : Nat) : Int)))) := Lib.hid (store_one (by kernel_rfl) rfl rfl (by
    rw [hbx.out.drew.cell]
    show ((rowArr 128 (s.holds d a))[n % 128]?).isSome = true
    rw [rowArr_get (by omega)]
    rfl) (hbx.out.drew.frozen _) (add_plain _ _ _))
  go_wp2_with fail
  refine region_anyZ (fun w => Blk w bs 87 (secA (s.holds d a))) 10 (by kernel_rfl) ?_
  refine takeG 0 (.move (.tmp 3)) (some 28) none (.int .i64 (n : Int)) (by kernel_rfl) (by kernel_rfl) (by kernel_rfl) (fun _ _ _ h => h) (fun o w e hS => exec_move w e (by kernel_rfl)) HS8.out ?_
  refine takeG 1 (.binOp .rem 3 (.tmp 28) (.const (.int .i64 128)) 3) (some 29) none (.int .i64 ((n % 128 : Nat) : Int)) (by kernel_rfl) (by kernel_rfl) (by kernel_rfl) (fun _ _ _ h => h) (fun o w e hS => exec_bin (u1 := .int .i64 (n : Int)) (u2 := (.int .i64 128)) w e (by kernel_rfl) (by kernel_rfl) (eqG_int ..) (rem_i64 _ n 128 hn (by omega) (by omega))) HS8.out ?_
  refine takeG 2 (.fieldAddr 87 (.tmp 11) 0) (some 30) none (.pointer (some ⟨bs, 0, none⟩)) (by kernel_rfl) (by kernel_rfl) (by kernel_rfl) (fun _ _ _ h => h) (fun o w e hS => exec_field (u := .pointer (some ⟨bs, 0, none⟩)) w e (by kernel_rfl) (by kernel_rfl)) HS8.out ?_
  refine takeG 3 (.indexAddr 85 (.tmp 30) (.tmp 29)) (some 31) none (.pointer (some ⟨bs, n % 128, none⟩)) (by kernel_rfl) (by kernel_rfl) (by kernel_rfl) (fun _ _ _ h => h) (fun o w e hS => exec_index (u1 := .pointer (some ⟨bs, 0, none⟩)) (u2 := .int .i64 ((n % 128 : Nat) : Int)) w e (by kernel_rfl) (by kernel_rfl) (index_array0 Tryz.underlying85 (by kernel_rfl) bs (n % 128) (by omega) w)) HS8.out ?_
  refine takeG 4 (.load 5 (.tmp 31)) (some 32) none (.int .u8 ((s.holds d a (n % 128) : Nat) : Int)) (by kernel_rfl) (by kernel_rfl) (by kernel_rfl) (fun _ _ _ h => h) (fun o w e hS => exec_load (x := (.tmp 31)) e (by kernel_rfl) (load_one Tryz.underlying5 rfl ((Blk.cell hS (n % 128)).trans (rowArr_get (by omega))))) HS8.out ?_
  refine takeG 5 (.move (.tmp 3)) (some 33) none (.int .i64 (n : Int)) (by kernel_rfl) (by kernel_rfl) (by kernel_rfl) (fun _ _ _ h => h) (fun o w e hS => exec_move w e (by kernel_rfl)) HS8.out ?_
  refine takeD 8 (.fieldAddr 87 (.tmp 11) 0) (some 36) none (.pointer (some ⟨bs, 0, none⟩)) (by kernel_rfl) (by kernel_rfl) (by kernel_rfl) (fun _ _ _ h => h) (fun o w e hS => exec_field (u := .pointer (some ⟨bs, 0, none⟩)) w e (by kernel_rfl) (by kernel_rfl)) HS8.out ?_
  refine loneG 6 (.call ⟨.value (.func 46), #[(.tmp 33)], #[3]⟩) (some 34) none (by kernel_rfl) (by kernel_rfl) (by kernel_rfl) ?_
  intro o ho hod
  refine wp_callC (f := 46) (args := #[.int .i64 (n : Int)]) (by cases o; cases ho; kernel_rfl) (turn_any _ n hn) ?_
  rintro e w' ⟨rfl, rfl⟩
  refine ⟨.int .u8 ((1 + n / 128 % 255 : Nat) : Int), rfl, ?_⟩
  rw [hod]
  clear hod ho
  skip
  refine ⟨fun _ => HS8.out, ?_⟩
  refine loneG 7 (.binOp .xor 5 (.tmp 32) (.tmp 34) 5) (some 35) none (by kernel_rfl) (by kernel_rfl) (by kernel_rfl) ?_
  intro o ho hod
  refine wp_val (v := .int .u8 ((s.holds d a (n % 128) ^^^ (1 + n / 128 % 255) : Nat) : Int)) (exec_bin (u1 := .int .u8 ((s.holds d a (n % 128) : Nat) : Int)) (u2 := .int .u8 ((1 + n / 128 % 255 : Nat) : Int)) _ ho (by kernel_rfl) (by kernel_rfl) (eqG_int ..) (xor_u8 _ _ _ hxl (by omega))) ?_
  rw [hod]
  clear hod ho
  refine ⟨fun _ => HS8.out, ?_⟩
  refine loneG 9 (.indexAddr 85 (.tmp 36) (.tmp 29)) (some 37) none (by kernel_rfl) (by kernel_rfl) (by kernel_rfl) ?_
  intro o ho hod
  refine wp_val (v := .pointer (some ⟨bs, n % 128, none⟩)) (exec_index (u1 := .pointer (some ⟨bs, 0, none⟩)) (u2 := .int .i64 ((n % 128 : Nat) : Int)) _ ho (by kernel_rfl) (by kernel_rfl) (index_array0 Tryz.underlying85 (by kernel_rfl) bs (n % 128) (by omega) _)) ?_
  rw [hod]
  clear hod ho
  refine ⟨fun _ => HS8.out, ?_⟩
  refine lastStore 10 5 (.tmp 37) (.tmp 35) _ _ _ (by kernel_rfl) (by kernel_rfl) (by kernel_rfl) rfl (by kernel_rfl) (by kernel_rfl) HST.out ?_
  have c5 := hbx.out.drew.set_ (n % 128) (.int .u8 ((s.holds d a (n % 128) ^^^ (1 + n / 128 % 255) : Nat) : Int))
  unfold secA at c5
  rw [rowArr_set (by omega)] at c5
  have e5 : (fun j => if j = n % 128 then s.holds d a (n % 128) ^^^ (1 + n / 128 % 255) else s.holds d a j) = rotF (s.holds d a) n := by
    funext j
    unfold rotF
    by_cases e : j = n % 128
    · rw [if_pos e, if_pos e, e]
    · rw [if_neg e, if_neg e]
  rw [e5] at c5
  have B5 : Hid (Blk (w4.drew.setCell ⟨bs, n % 128, none⟩ (.int .u8 ((s.holds d a (n % 128) ^^^ (1 + n / 128 % 255) : Nat) : Int))) bs 87 (secA (rotF (s.holds d a) n))) := Lib.hid c5
  have HW5 := Lib.hid (HW4.out.drew.far (p := ⟨bs, n % 128, none⟩) (x := (.int .u8 ((s.holds d a (n % 128) ^^^ (1 + n / 128 % 255) : Nat) : Int))) hbx.out.drew rfl rfl)
  have K5 := Lib.hid (K4.out.drew.grownNew (grown_set w4.drew bs (n % 128) (.int .u8 ((s.holds d a (n % 128) ^^^ (1 + n / 128 % 255) : Nat) : Int))) hbB hle4 (by have := HBP.out; omega))
  have b5 := Lib.hid (b4.out.drew.far (p := ⟨bs, n % 128, none⟩) (show bp ≠ bs by omega) (.int .u8 ((s.holds d a (n % 128) ^^^ (1 + n / 128 % 255) : Nat) : Int)))
  clear c5 e5 HST HS8 hbx HW4 K4 b4
  generalize w4.drew.setCell ⟨bs, n % 128, none⟩ (.int .u8 ((s.holds d a (n % 128) ^^^ (1 + n / 128 % 255) : Nat) : Int)) = w5 at *
  simp only [put_some, put_none, List.setIfInBounds_toArray, List.set_cons_succ, List.set_cons_zero]
  go_wp2_with fail
  have hwd : d < 4611686018427387904 := by have := OK.out.nd2; omega
  have hwa : a < 4611686018427387904 := by have := OK.out.ns2; omega
  have c4 := HW5.out.c4
  have p0 : w5.cell? ⟨bp, 0, none⟩ = some (.int .i64 (d : Int)) := b5.out.cell 0
  have p1 : w5.cell? ⟨bp, 1, none⟩ = some (.int .i64 (a : Int)) := b5.out.cell 1
  have hlk := fun n => (HW5.out.newest.drewN n).look Tryz.underlying65 (zero_int _) hwd hwa true
  simp only [if_true, pkey] at hlk
  cases hni : newIn s.W d a s.nw with
  | some i =>
    have eh : s.holds d a = (s.W i).x := by unfold RS.holds; rw [hni]
    have ER := Lib.hid (rotted_some (n := n) hni)
    have hi := (newIn_lt hni).1
    rw [eh] at B5
    simp only [hni, Option.map_some, Option.getD_some, Option.isSome_some, iv] at hlk
    obtain ⟨g, cap, rfl⟩ := own_slice HW5.out.row (by omega)
    have hgp := HW5.out.row_ne2
    generalize hY : rotF (s.W i).x n = Y at *
    have HY := Lib.hid hY
    clear hY eh hni hxl
    have HW6 := Lib.hid (fun k => (HW5.out.drewN k).drew.rotSome (X := Y) hi)
    have K6 := Lib.hid (fun k => ((K5.out.drewN k).drew).grownRow (HW5.out.drewN k).drew.row HW5.out.le (grown_setCells g (secA Y).toList (i * 130 + 2) ((w5.drewN k).drew)))
    have HS11 : ∀ k, Hid ((fun w : World => w.cell? ⟨r, 3, none⟩ = some (.slice (some ⟨g, 0, none⟩) s.nw cap) ∧ Blk w bs 87 (secA Y)) ((w5.drewN k).drew)) := fun k => Lib.hid ⟨(HW5.out.drewN k).drew.c3, (B5.out.drewN k).drew⟩
    have HST2 : ∀ k, Hid ((Instr.storeAt 87 (.pointer (some ⟨g, i * 130 + 2, none⟩)) (.agg (secA Y))).run Tryz.prog ((w5.drewN k).drew) = .ok () (((w5.drewN k).drew).setCells g (i * 130 + 2) (secA Y).toList)) := fun k =>
      Lib.hid (run_storeAt_mid _ g (i * 130 + 2) _ (secA Y) (by rw [secA_size]; exact (row_put (X := Y) (HW5.out.drewN k).drew.row hi).2) (by rw [secA_size]; exact isize_sector) (secA_one Y))
    go_quiet (fail)
    go_wp2_with fail
    refine region_anyZ (fun w => w.cell? ⟨r, 3, none⟩ = some (.slice (some ⟨g, 0, none⟩) s.nw cap) ∧ Blk w bs 87 (secA Y)) 8 (by kernel_rfl) ?_
    refine takeG 0 (.move (.tmp 0)) (some 48) none (.pointer (some ⟨r, 0, none⟩)) (by kernel_rfl) (by kernel_rfl) (by kernel_rfl) (fun _ _ _ h => h) (fun o w e hS => exec_move w e (by kernel_rfl)) (HS11 _).out ?_
    refine takeG 1 (.nilCheck (.tmp 48)) (some 49) none (.pointer (some ⟨r, 0, none⟩)) (by kernel_rfl) (by kernel_rfl) (by kernel_rfl) (fun _ _ _ h => h) (fun o w e hS => exec_nil w e (by kernel_rfl)) (HS11 _).out ?_
    refine takeG 2 (.fieldAddr 68 (.tmp 49) 3) (some 50) none (.pointer (some ⟨r, 3, none⟩)) (by kernel_rfl) (by kernel_rfl) (by kernel_rfl) (fun _ _ _ h => h) (fun o w e hS => exec_field (u := .pointer (some ⟨r, 0, none⟩)) w e (by kernel_rfl) (by kernel_rfl)) (HS11 _).out ?_
    refine takeG 3 (.load 64 (.tmp 50)) (some 51) none (.slice (some ⟨g, 0, none⟩) s.nw cap) (by kernel_rfl) (by kernel_rfl) (by kernel_rfl) (fun _ _ _ h => h) (fun o w e hS => exec_load (x := (.tmp 50)) e (by kernel_rfl) (load_one Tryz.underlying64 rfl hS.1)) (HS11 _).out ?_
    refine takeG 4 (.move (.tmp 12)) (some 52) none (.int .i64 (i : Int)) (by kernel_rfl) (by kernel_rfl) (by kernel_rfl) (fun _ _ _ h => h) (fun o w e hS => exec_move w e (by kernel_rfl)) (HS11 _).out ?_
    refine takeG 5 (.load 87 (.tmp 11)) (some 53) none (.agg (secA Y)) (by kernel_rfl) (by kernel_rfl) (by kernel_rfl) (fun _ _ _ h => h) (fun o w e hS => exec_load (x := (.tmp 11)) e (by kernel_rfl) (load_blk hS.2 Tryz.underlying87 rfl (by rw [secA_size]; exact isize_sector))) (HS11 _).out ?_
    refine takeD 6 (.indexAddr 64 (.tmp 51) (.tmp 52)) (some 54) none (.pointer (some ⟨g, i * 130, none⟩)) (by kernel_rfl) (by kernel_rfl) (by kernel_rfl) (fun _ _ _ h => h) (fun o w e hS => exec_index (u1 := .slice (some ⟨g, 0, none⟩) s.nw cap) (u2 := .int .i64 (i : Int)) w e (by kernel_rfl) (by kernel_rfl) (index_wide Tryz.underlying64 (by kernel_rfl) g s.nw cap i hi w)) (HS11 _).out ?_
    refine takeG 7 (.fieldAddr 89 (.tmp 54) 1) (some 55) none (.pointer (some ⟨g, i * 130 + 2, none⟩)) (by kernel_rfl) (by kernel_rfl) (by kernel_rfl) (fun _ _ _ h => h) (fun o w e hS => exec_field (u := .pointer (some ⟨g, i * 130, none⟩)) w e (by kernel_rfl) (by kernel_rfl)) (HS11 _).out ?_
    refine lastStore 8 87 (.tmp 55) (.tmp 53) _ _ _ (by kernel_rfl) (by kernel_rfl) (by kernel_rfl) rfl (by kernel_rfl) (by kernel_rfl) (HST2 _).out ?_
    clear hlk
    simp only [put_some, put_none, List.setIfInBounds_toArray, List.set_cons_succ, List.set_cons_zero]
    go_wp2_with fail
    go_ret
    rw [ER.out] at OKC
    rw [ER.out]
    exact ⟨rfl, ⟨OKC.out, m1, m2, _, HW6.out _⟩, K6.out _⟩
  | none =>
    have eh : s.holds d a = s.last d a := by unfold RS.holds; rw [hni]
    have ER := Lib.hid (rotted_none (n := n) hni)
    rw [eh] at B5
    simp only [hni, Option.map_none, Option.getD_none, Option.isSome_none] at hlk
    generalize hY : rotF (s.last d a) n = Y at *
    have HY := Lib.hid hY
    clear hY eh hni hxl
    obtain ⟨nl, F, f1, f2, f3⟩ := HW5.out.last
    have F1 := Lib.hid f1
    have F2 : ∀ k, Hid (MapS (w5.drewN k) m1 nl F) := fun k => Lib.hid (f2.drewN k)
    have F3 := Lib.hid f3
    have hnm : nl < maxLen := by
      simp only [maxLen]
      omega
    clear f1 f2 f3
    have HS12 : ∀ k, Hid ((fun w : World => w.cell? ⟨r, 2, none⟩ = some (.map (some m1)) ∧ Blk w bp 84 #[.int .i64 (d : Int), .int .i64 (a : Int)] ∧ Blk w bs 87 (secA Y)) ((w5.drewN k).drew)) := fun k => Lib.hid ⟨(HW5.out.drewN k).drew.c2, (b5.out.drewN k).drew, (B5.out.drewN k).drew⟩
    go_quiet (fail)
    go_wp2_with fail
    refine region_anyZ (fun w => w.cell? ⟨r, 2, none⟩ = some (.map (some m1)) ∧ Blk w bp 84 #[.int .i64 (d : Int), .int .i64 (a : Int)] ∧ Blk w bs 87 (secA Y)) 6 (by kernel_rfl) ?_
    refine takeG 0 (.move (.tmp 0)) (some 56) none (.pointer (some ⟨r, 0, none⟩)) (by kernel_rfl) (by kernel_rfl) (by kernel_rfl) (fun _ _ _ h => h) (fun o w e hS => exec_move w e (by kernel_rfl)) (HS12 _).out ?_
    refine takeG 1 (.nilCheck (.tmp 56)) (some 57) none (.pointer (some ⟨r, 0, none⟩)) (by kernel_rfl) (by kernel_rfl) (by kernel_rfl) (fun _ _ _ h => h) (fun o w e hS => exec_nil w e (by kernel_rfl)) (HS12 _).out ?_
    refine takeG 2 (.fieldAddr 68 (.tmp 57) 2) (some 58) none (.pointer (some ⟨r, 2, none⟩)) (by kernel_rfl) (by kernel_rfl) (by kernel_rfl) (fun _ _ _ h => h) (fun o w e hS => exec_field (u := .pointer (some ⟨r, 0, none⟩)) w e (by kernel_rfl) (by kernel_rfl)) (HS12 _).out ?_
    refine takeG 3 (.load 63 (.tmp 58)) (some 59) none (.map (some m1)) (by kernel_rfl) (by kernel_rfl) (by kernel_rfl) (fun _ _ _ h => h) (fun o w e hS => exec_load (x := (.tmp 58)) e (by kernel_rfl) (load_one Tryz.underlying63 rfl hS.1)) (HS12 _).out ?_
    refine takeG 4 (.load 84 (.tmp 9)) (some 60) none (pkey d a) (by kernel_rfl) (by kernel_rfl) (by kernel_rfl) (fun _ _ _ h => h) (fun o w e hS => exec_load (x := (.tmp 9)) e (by kernel_rfl) (load_blk hS.2.1 Tryz.underlying84 rfl isize_place)) (HS12 _).out ?_
    refine takeG 5 (.load 87 (.tmp 11)) (some 61) none (.agg (secA Y)) (by kernel_rfl) (by kernel_rfl) (by kernel_rfl) (fun _ _ _ h => h) (fun o w e hS => exec_load (x := (.tmp 11)) e (by kernel_rfl) (load_blk hS.2.2 Tryz.underlying87 rfl (by rw [secA_size]; exact isize_sector))) (HS12 _).out ?_
    refine lastOp 6 (.mapUpdate 63 (.tmp 59) (.tmp 60) (.tmp 61)) none (by kernel_rfl) (by kernel_rfl) (by kernel_rfl) rfl ?_
    intro o ho hod
    refine wp_mapPut (.tmp 59) (.tmp 60) (.tmp 61) 63 87 ho Tryz.underlying63 m1 nl F (by kernel_rfl) ((F2 _).out.drew) hnm d a hwd hwa (.agg (secA Y)) (by kernel_rfl) (by kernel_rfl) (isSec_sec _) ?_
    rw [hod]
    clear hod ho
    intro w7 hm7 hg7 hs7
    have R7 := Lib.hid ((HW5.out.drewN _).drew.rotNone (n' := nl) (d := d) (a := a) (Y := Y) F1.out F3.out hg7 hm7)
    have K7 := Lib.hid ((K5.out.drewN _).drew.ofMap1 (HW5.out.drewN _).drew hg7)
    clear hm7 hg7 hs7 hlk
    simp only [put_some, put_none, List.setIfInBounds_toArray, List.set_cons_succ, List.set_cons_zero]
    go_wp2_with fail
    go_ret
    rw [ER.out] at OKC
    rw [ER.out]
    exact ⟨rfl, ⟨OKC.out, m1, m2, _, R7.out⟩, K7.out⟩
end Go.Proofs.YthioanenljpclaaGreatDoor
