/-
  'hoardlaw11.DeadGoes': the walk. The conditions: the line can be read, its rows have room, also one behind the other.
-/
import Derived.Test.YtpoacgofbbfhcaaDeadForm
namespace Go.Proofs.Ytpoacgofbbfhcaa
open Go Go.RowKit
set_option maxRecDepth 100000
set_option linter.unusedVariables false
namespace Dd
theorem free_len {L : Ln} (h : Small L) (k : Int) : (desS L k).2.1.length ≤ 4194304 := by
  unfold desS
  by_cases hR : rightL L = true
  · rw [if_pos hR]
    by_cases hb : k < 0 ∨ (L.snaps.length : Int) ≤ k
    · rw [if_pos hb]; exact Nat.zero_le _
    · rw [if_neg hb]
      have h1 : (laterL (aheadL L k.toNat) (nextL L k.toNat)).length ≤ (nextL L k.toNat).length := List.length_filter_le _ _
      have h2 := h.next k.toNat
      show (laterL (aheadL L k.toNat) (nextL L k.toNat)).length ≤ _
      omega
  · rw [if_neg hR]; exact Nat.zero_le _
set_option maxHeartbeats 25600000 in
theorem goes_walk (w : World) (L : Ln) (k : Int) (A A' : Option Addr) (c c' : Nat) (hf : Fit L) (hsm : Small L) (hs : RdS w A L.snaps) (hsn : A = none → c = 0) (hd : RdP w A' L.dead) (hdn : A' = none → c' = 0) :
    Calls Try.prog 4 #[.agg #[.int .i64 L.base, .slice A L.snaps.length c, .slice A' L.dead.length c'], .int .i64 k] w fun e w' => e = .returned (.bool true) ∧ Below w.heap.size w w' := by
  obtain ⟨n, hn⟩ : ∃ n, n = L.snaps.length := ⟨_, rfl⟩
  obtain ⟨m, hm⟩ : ∃ m, m = L.dead.length := ⟨_, rfl⟩
  obtain ⟨bs, hbs⟩ : ∃ bs, bs = L.base := ⟨_, rfl⟩
  have HN := Lib.hid hn
  have HM := Lib.hid hm
  have HBS := Lib.hid hbs
  obtain ⟨DD, hDD⟩ : ∃ DD, DD = desS L k := ⟨_, rfl⟩
  obtain ⟨La, Fa, ea⟩ := DD
  have HFA : Hid (Fit La) := Lib.hid (by have h := fit_des hf hsm k; rw [← hDD] at h; exact h)
  have HRI : Hid (ea = 0 → rightL La = true) := Lib.hid (fun h => by have h1 := right_desS (L := L) (k := k); rw [← hDD] at h1; exact h1 h)
  have HFL : Hid (Fa.length ≤ 4194304) := Lib.hid (by have h := free_len hsm k; rw [← hDD] at h; exact h)
  obtain ⟨W, hw0⟩ : ∃ W9, W9 = w.alloc (.cells #[.int .i64 bs, .slice A n c, .slice A' m c'] 25) := ⟨_, rfl⟩
  obtain ⟨r2, hr0⟩ : ∃ r9, r9 = w.heap.size := ⟨_, rfl⟩
  have hs0 : W.heap.size = r2 + 1 := by rw [hw0]; simp; omega
  have hb0 : Below w.heap.size w W := by rw [hw0]; exact (Below.refl _ _).alloc (Nat.le_refl _) _
  have Xr2 : Blk W r2 25 #[.int .i64 bs, .slice A n c, .slice A' m c'] := by
    have h := Blk.new w 25 #[.int .i64 bs, .slice A n c, .slice A' m c']
    rw [← hr0] at h
    rw [hw0]
    exact h
  have HE : Hid (r2 = w.heap.size) := Lib.hid hr0
  have HW0 := Lib.hid hw0
  have HWZ := Lib.hid hs0
  have hb := hb0
  have hR : ∀ W2, Below W.heap.size W W2 → RdS W2 A L.snaps ∧ RdP W2 A' L.dead := fun W2 hb2 => ⟨(hs.below hb).below hb2, (hd.below hb).below hb2⟩
  have HOF : Hid (∀ W2, Below W.heap.size W W2 → Calls Try.prog 10 #[.agg #[.int .i64 bs, .slice A n c, .slice A' m c']] W2 fun e w' => OfPost W2 L e w') := Lib.hid fun W2 hb2 => by rw [hn, hm, hbs]; exact of_at W2 L A A' c c' hf (hR W2 hb2).1 hsn (hR W2 hb2).2 hdn
  have HDD : Hid (∀ W2, Below W.heap.size W W2 → Calls Try.prog 18 #[.agg #[.int .i64 bs, .slice A n c, .slice A' m c'], .int .i64 k] W2 fun e w' => DocDesPost W2 (La, Fa, ea) e w') := Lib.hid fun W2 hb2 => by rw [hn, hm, hbs, hDD]; exact docdes_at W2 L k A A' c c' hf hsm (hR W2 hb2).1 hsn (hR W2 hb2).2 hdn
  have HDE : Hid (∀ (W2 : World) (b : Nat) (A1 : Option Addr) (c1 : Nat) (A5 : Option Addr) (c5 : Nat) (vs : List SV), LnO 65 W2 b A1 c1 A5 c5 vs L → Calls Try.prog 19 #[.agg #[.int .i64 bs, .slice A1 n c1, .slice A5 m c5], .int .i64 k] W2 fun e w' => DesPost 65 W2 (La, Fa, ea) e w') := Lib.hid fun W2 b A1 c1 A5 c5 vs h => by rw [hn, hm, hbs, hDD]; exact destroy_at W2 L k A1 A5 c1 c5 hf hsm h.rs.1 h.rs.2 h.rd.1 h.rd.2
  have HX := Lib.hid Xr2
  have LW := Lib.hid hb
  rw [← hn, ← hm, ← hbs]
  clear hn hm hbs hf hs hsn hd hdn hb hR Xr2 hsm hDD hw0 hr0 hs0 hb0
  go_enter Try.func4, Try.ntmps4
  go_upto_region 1 with (fail)
  rw [← HW0.out, ← HE.out]
  go_wp2_with fail
  refine (known_at W).mono ?_
  rintro e U0 ⟨rfl, b0⟩
  have LU0 := Lib.hid b0
  have q0' := HX.out.below b0 HX.out.lt
  have q0 : U0.cell? ⟨r2, 0, none⟩ = some (.int .i64 bs) := q0'.cell 0
  have q1 : U0.cell? ⟨r2, 1, none⟩ = some (.slice A n c) := q0'.cell 1
  have q2 : U0.cell? ⟨r2, 2, none⟩ = some (.slice A' m c') := q0'.cell 2
  clear b0 q0'
  go_wp2_with fail
  refine (HDD.out _ LU0.out).mono ?_
  rintro e U1 ⟨v3, f3, rfl, ⟨A3, c3, A4, c4, rfl, hs3, hd4, hn3, hn4⟩, of3, b1⟩
  obtain ⟨A9, c9, hf9, rf9, _, _, _, _⟩ := of3.shape (fun _ => rfl)
  obtain ⟨nf, hnf⟩ : ∃ nf, nf = Fa.length := ⟨_, rfl⟩
  have hf9' : f3 = .slice A9 nf c9 := by rw [hnf]; exact hf9
  clear hf9
  subst hf9'
  have HNF := Lib.hid hnf
  obtain ⟨U2, hU2⟩ : ∃ U2, U2 = U1.alloc (.cells #[.int .i64 La.base, .slice A3 La.snaps.length c3, .slice A4 La.dead.length c4] 25) := ⟨_, rfl⟩
  obtain ⟨g5, hg5⟩ : ∃ g5, g5 = U1.heap.size := ⟨_, rfl⟩
  have hb12 : Below U1.heap.size U1 U2 := by rw [hU2]; exact (Below.refl _ _).alloc (Nat.le_refl _) _
  have hW2 : Below W.heap.size W U2 := (LU0.out.trans (b1.mono LU0.out.size)).trans (hb12.mono (LU0.out.trans (b1.mono LU0.out.size)).size)
  have HG5 : Hid (Blk U2 g5 25 #[.int .i64 La.base, .slice A3 La.snaps.length c3, .slice A4 La.dead.length c4]) := Lib.hid (by rw [hU2, hg5]; exact Blk.new _ _ _)
  have HRA := Lib.hid (⟨hs3.below hb12, hd4.below hb12, rf9.below hb12⟩ : _ ∧ _ ∧ _)
  have LU2 := Lib.hid hW2
  have hX2 := HX.out.below hW2 HX.out.lt
  have HU2 := Lib.hid (⟨hU2, hg5⟩ : _ ∧ _)
  clear hU2 hg5 hb12 hs3 hd4 rf9 of3 b1 q0 q1 q2 hnf
  go_upto_region 4 with (fail)
  rw [← HU2.out.1, ← HU2.out.2]
  have q0 : U2.cell? ⟨r2, 0, none⟩ = some (.int .i64 bs) := hX2.cell 0
  have q1 : U2.cell? ⟨r2, 1, none⟩ = some (.slice A n c) := hX2.cell 1
  have q2 : U2.cell? ⟨r2, 2, none⟩ = some (.slice A' m c') := hX2.cell 2
  clear HU2 hW2 hX2
  go_wp2_with fail
  refine (HOF.out _ LU2.out).mono ?_
  rintro e U3 ⟨A1, c1, A5, c5, vs1, rfl, hO1, hx1, hx2, b3⟩
  rw [← HN.out, ← HM.out, ← HBS.out]
  have HO1 := Lib.hid hO1
  have B3 := Lib.hid b3
  clear hO1 hx1 hx2 b3 q0 q1 q2
  go_wp2_with fail
  refine (HDE.out _ _ _ _ _ _ _ HO1.out).mono ?_
  rintro e U4 ⟨v7, f7, rfl, ⟨A7, c7, A8, c8, vs7, rfl, hO7⟩, of7, b4⟩
  obtain ⟨A10, c10, hf10, rf10, _, _, _, _⟩ := of7.shape (fun _ => rfl)
  have hf10' : f7 = .slice A10 nf c10 := by rw [HNF.out]; exact hf10
  clear hf10
  subst hf10'
  obtain ⟨X, hX⟩ : ∃ X, X = U4.alloc (.cells #[.int .i64 La.base, .slice A7 La.snaps.length c7, .slice A8 La.dead.length c8] 33) := ⟨_, rfl⟩
  obtain ⟨g8, hg8⟩ : ∃ g8, g8 = U4.heap.size := ⟨_, rfl⟩
  have hb45 : Below U4.heap.size U4 X := by rw [hX]; exact (Below.refl _ _).alloc (Nat.le_refl _) _
  have b24 : Below U2.heap.size U2 U4 := B3.out.trans (b4.mono B3.out.size)
  have b2X : Below U2.heap.size U2 X := b24.trans (hb45.mono b24.size)
  have HG8 : Hid (Blk X g8 33 #[.int .i64 La.base, .slice A7 La.snaps.length c7, .slice A8 La.dead.length c8]) := Lib.hid (by rw [hX, hg8]; exact Blk.new _ _ _)
  have HO7 := Lib.hid (hO7.below hb45 (Nat.le_refl _))
  have HR10 := Lib.hid (rf10.below hb45)
  have HRB := Lib.hid (⟨HRA.out.1.below b2X, HRA.out.2.1.below b2X, HRA.out.2.2.below b2X⟩ : _ ∧ _ ∧ _)
  have HG5X := Lib.hid (HG5.out.below b2X HG5.out.lt)
  have LX := Lib.hid (LU2.out.trans (b2X.mono LU2.out.size))
  have HXX := Lib.hid (⟨hX, hg8⟩ : _ ∧ _)
  clear hX hg8 hb45 b24 b2X hO7 rf10 of7 b4 HRA HG5
  go_upto_region 5 with (fail)
  rw [← HXX.out.1, ← HXX.out.2]
  clear HXX
  have HTT : Hid (∀ w', Below X.heap.size X w' → Blk w' g5 25 #[.int .i64 La.base, .slice A3 La.snaps.length c3, .slice A4 La.dead.length c4] ∧ Blk w' g8 33 #[.int .i64 La.base, .slice A7 La.snaps.length c7, .slice A8 La.dead.length c8]) := Lib.hid fun w' h => ⟨HG5X.out.below h HG5X.out.lt, HG8.out.below h HG8.out.lt⟩
  have LZ0 : Hid (Below X.heap.size X X.drew) := Lib.hid (Below.refl _ _).drew
  have HT0 : Hid (Blk X.drew g5 25 #[.int .i64 La.base, .slice A3 La.snaps.length c3, .slice A4 La.dead.length c4] ∧ Blk X.drew g8 33 #[.int .i64 La.base, .slice A7 La.snaps.length c7, .slice A8 La.dead.length c8]) := Lib.hid (HTT.out _ LZ0.out)
  have HBK : Hid (∀ w', Below X.heap.size X w' → Calls Try.prog 15 #[.agg #[.int .i64 La.base, .slice A7 La.snaps.length c7, .slice A8 La.dead.length c8]] w' fun e w9 => BackPost w' La A8 La.dead.length c8 e w9) := Lib.hid fun w' h => back_at w' La A7 A8 c7 c8 _ HFA.out (HO7.out.rs.1.below h)
  have HSL : Hid (∀ (w' : World) (BA : Option Addr) (bq : Nat), Below X.heap.size X w' → RdS w' BA La.snaps → Calls Try.prog 14 #[.agg #[.int .i64 La.base, .slice A3 La.snaps.length c3, .slice A4 La.dead.length c4], .agg #[.int .i64 La.base, .slice BA La.snaps.length bq, .slice A8 La.dead.length c8]] w' fun e w9 => e = .returned (.bool true) ∧ Below w'.heap.size w' w9) := Lib.hid fun w' BA bq h hr =>
    sameline_at w' La A3 A4 BA A8 c3 c4 bq c8 HFA.out (HRB.out.1.below h) (HRB.out.2.1.below h) hr (HO7.out.rd.1.below h)
  have HSA : Hid (∀ w', Below X.heap.size X w' → Calls Try.prog 20 #[.slice A9 nf c9, .slice A10 nf c10] w' fun e w9 => e = .returned (.bool true) ∧ Below w'.heap.size w' w9) := Lib.hid fun w' h =>
    same_at w' Fa A9 A10 c9 c10 nf HNF.out (by have := HNF.out; have := HFL.out; unfold big; omega) (HRB.out.2.2.below h) (HR10.out.below h)
  by_cases hea : ea = 0
  · subst hea
    have HCK : Hid (∀ w', Below X.heap.size X w' → Calls Try.prog 9 #[.agg #[.int .i64 La.base, .slice A7 La.snaps.length c7, .slice A8 La.dead.length c8]] w' fun e w9 => e = .returned (.int .i64 0) ∧ Below w'.heap.size w' w9) := Lib.hid fun w' h => by
      have h1 := check_at w' La A7 A8 c7 c8 HFA.out (HO7.out.rs.1.below h) (HO7.out.rd.1.below h)
      rw [HRI.out rfl] at h1
      exact h1
    refine region_anyZ (fun w' => Blk w' g5 25 #[.int .i64 La.base, .slice A3 La.snaps.length c3, .slice A4 La.dead.length c4] ∧ Blk w' g8 33 #[.int .i64 La.base, .slice A7 La.snaps.length c7, .slice A8 La.dead.length c8]) 24 (by kernel_rfl) ?_
    refine takeG 0 (.load 25 (.tmp 5)) (some 28) none (.agg #[.int .i64 La.base, .slice A3 La.snaps.length c3, .slice A4 La.dead.length c4]) (by kernel_rfl) (by kernel_rfl) (by kernel_rfl) (fun _ _ _ h => h) (fun o' wq e hS => exec_load (x := (.tmp 5)) e (by kernel_rfl) (load_rln hS.1)) HT0.out ?_
    refine takeG 1 (.load 33 (.tmp 8)) (some 29) none (.agg #[.int .i64 La.base, .slice A7 La.snaps.length c7, .slice A8 La.dead.length c8]) (by kernel_rfl) (by kernel_rfl) (by kernel_rfl) (fun _ _ _ h => h) (fun o' wq e hS => exec_load (x := (.tmp 8)) e (by kernel_rfl) (load_ln hS.2)) HT0.out ?_
    refine loneG 2 (.call ⟨.value (.func 15), #[(.tmp 29)], #[33]⟩) (some 30) none (by kernel_rfl) (by kernel_rfl) (by kernel_rfl) ?_
    intro o' ho hod
    refine wp_callC (f := 15) (args := #[.agg #[.int .i64 La.base, .slice A7 La.snaps.length c7, .slice A8 La.dead.length c8]]) (by cases o'; cases ho; kernel_rfl) (HBK.out _ LZ0.out) ?_
    rintro ee V1 ⟨BA, bq, rfl, hrs, hbq, bb⟩
    have LZ1 := Lib.hid (LZ0.out.trans (bb.mono LZ0.out.size))
    have HT1 := Lib.hid (HTT.out _ LZ1.out)
    have HRS1 := Lib.hid hrs
    refine ⟨.agg #[.int .i64 La.base, .slice BA La.snaps.length bq, .slice A8 La.dead.length c8], rfl, ?_⟩
    rw [hod]
    clear hod ho bb
    refine ⟨fun _ => HT1.out, ?_⟩
    refine loneG 3 (.call ⟨.value (.func 14), #[(.tmp 28), (.tmp 30)], #[25, 25]⟩) (some 31) none (by kernel_rfl) (by kernel_rfl) (by kernel_rfl) ?_
    intro o' ho hod
    refine wp_callC (f := 14) (args := #[.agg #[.int .i64 La.base, .slice A3 La.snaps.length c3, .slice A4 La.dead.length c4], .agg #[.int .i64 La.base, .slice BA La.snaps.length bq, .slice A8 La.dead.length c8]]) (by cases o'; cases ho; kernel_rfl) (HSL.out _ _ _ LZ1.out HRS1.out) ?_
    rintro ee V2 ⟨rfl, bb⟩
    have LZ2 := Lib.hid (LZ1.out.trans (bb.mono LZ1.out.size))
    have HT2 := Lib.hid (HTT.out _ LZ2.out)
    refine ⟨.bool true, rfl, ?_⟩
    rw [hod]
    clear hod ho bb
    refine ⟨fun _ => HT2.out, ?_⟩
    refine takeG 4 (.move (.tmp 31)) (some 32) none (.bool true) (by kernel_rfl) (by kernel_rfl) (by kernel_rfl) (fun _ _ _ h => h) (fun o' wq e hS => exec_move wq e (by kernel_rfl)) HT2.out ?_
    refine takeG 5 (.move (.tmp 6)) (some 33) (some (4, true)) (.slice A9 nf c9) (by kernel_rfl) (by kernel_rfl) (by kernel_rfl) (fun _ _ _ h => h) (fun o' wq e hS => exec_move wq e (by kernel_rfl)) HT2.out ?_
    refine takeG 6 (.move (.tmp 9)) (some 34) (some (4, true)) (.slice A10 nf c10) (by kernel_rfl) (by kernel_rfl) (by kernel_rfl) (fun _ _ _ h => h) (fun o' wq e hS => exec_move wq e (by kernel_rfl)) HT2.out ?_
    refine loneG 7 (.call ⟨.value (.func 20), #[(.tmp 33), (.tmp 34)], #[23, 23]⟩) (some 35) (some (4, true)) (by kernel_rfl) (by kernel_rfl) (by kernel_rfl) ?_
    intro o' ho hod
    refine wp_callC (f := 20) (args := #[.slice A9 nf c9, .slice A10 nf c10]) (by cases o'; cases ho; kernel_rfl) (HSA.out _ LZ2.out) ?_
    rintro ee V3 ⟨rfl, bb⟩
    have LZ3 := Lib.hid (LZ2.out.trans (bb.mono LZ2.out.size))
    have HT3 := Lib.hid (HTT.out _ LZ3.out)
    refine ⟨.bool true, rfl, ?_⟩
    rw [hod]
    clear hod ho bb
    refine ⟨fun _ => HT3.out, ?_⟩
    refine takeG 8 (.pick (.tmp 32) (.tmp 35) (.const (Value.bool false))) (some 36) none (.bool true) (by kernel_rfl) (by kernel_rfl) (by kernel_rfl) (fun _ _ _ h => h) (fun o' wq e hS => exec_pick (b := true) wq e (by kernel_rfl) (by kernel_rfl)) HT3.out ?_
    refine takeG 9 (.move (.tmp 36)) (some 37) none (.bool true) (by kernel_rfl) (by kernel_rfl) (by kernel_rfl) (fun _ _ _ h => h) (fun o' wq e hS => exec_move wq e (by kernel_rfl)) HT3.out ?_
    refine takeG 10 (.move (.tmp 7)) (some 38) (some (9, true)) (.int .i64 0) (by kernel_rfl) (by kernel_rfl) (by kernel_rfl) (fun _ _ _ h => h) (fun o' wq e hS => exec_move wq e (by kernel_rfl)) HT3.out ?_
    refine takeG 11 (.move (.tmp 10)) (some 39) (some (9, true)) (.int .i64 0) (by kernel_rfl) (by kernel_rfl) (by kernel_rfl) (fun _ _ _ h => h) (fun o' wq e hS => exec_move wq e (by kernel_rfl)) HT3.out ?_
    refine takeG 12 (.binOp .eql 29 (.tmp 38) (.tmp 39) 29) (some 40) (some (9, true)) (.bool true) (by kernel_rfl) (by kernel_rfl) (by kernel_rfl) (fun _ _ _ h => h) (fun o' wq e hS => exec_bin (u1 := .int .i64 0) (u2 := .int .i64 0) wq e (by kernel_rfl) (by kernel_rfl) (eqG_int ..) (eql_er 0 _)) HT3.out ?_
    refine takeG 13 (.pick (.tmp 37) (.tmp 40) (.const (Value.bool false))) (some 41) none (.bool true) (by kernel_rfl) (by kernel_rfl) (by kernel_rfl) (fun _ _ _ h => h) (fun o' wq e hS => exec_pick (b := true) wq e (by kernel_rfl) (by kernel_rfl)) HT3.out ?_
    refine takeG 14 (.move (.tmp 41)) (some 42) none (.bool true) (by kernel_rfl) (by kernel_rfl) (by kernel_rfl) (fun _ _ _ h => h) (fun o' wq e hS => exec_move wq e (by kernel_rfl)) HT3.out ?_
    refine takeG 15 (.move (.tmp 7)) (some 43) (some (14, true)) (.int .i64 0) (by kernel_rfl) (by kernel_rfl) (by kernel_rfl) (fun _ _ _ h => h) (fun o' wq e hS => exec_move wq e (by kernel_rfl)) HT3.out ?_
    refine takeG 16 (.binOp .neq 29 (.tmp 43) (.const (.int .i64 0)) 29) (some 44) (some (14, true)) (.bool false) (by kernel_rfl) (by kernel_rfl) (by kernel_rfl) (fun _ _ _ h => h) (fun o' wq e hS => exec_bin (u1 := .int .i64 0) (u2 := (.int .i64 0)) wq e (by kernel_rfl) (by kernel_rfl) (eqG_int ..) (neq_er 0 _)) HT3.out ?_
    refine takeG 17 (.move (.tmp 44)) (some 45) (some (14, true)) (.bool false) (by kernel_rfl) (by kernel_rfl) (by kernel_rfl) (fun _ _ _ h => h) (fun o' wq e hS => exec_move wq e (by kernel_rfl)) HT3.out ?_
    refine takeG 18 (.load 33 (.tmp 8)) (some 46) (some (17, false)) (.agg #[.int .i64 La.base, .slice A7 La.snaps.length c7, .slice A8 La.dead.length c8]) (by kernel_rfl) (by kernel_rfl) (by kernel_rfl) (fun _ _ _ h => h) (fun o' wq e hS => exec_load (x := (.tmp 8)) e (by kernel_rfl) (load_ln hS.2)) HT3.out ?_
    refine loneG 19 (.call ⟨.value (.func 9), #[(.tmp 46)], #[33]⟩) (some 47) (some (17, false)) (by kernel_rfl) (by kernel_rfl) (by kernel_rfl) ?_
    intro o' ho hod
    refine wp_callC (f := 9) (args := #[.agg #[.int .i64 La.base, .slice A7 La.snaps.length c7, .slice A8 La.dead.length c8]]) (by cases o'; cases ho; kernel_rfl) (HCK.out _ LZ3.out) ?_
    rintro ee V4 ⟨rfl, bb⟩
    have LZ4 := Lib.hid (LZ3.out.trans (bb.mono LZ3.out.size))
    have HT4 := Lib.hid (HTT.out _ LZ4.out)
    refine ⟨.int .i64 0, rfl, ?_⟩
    rw [hod]
    clear hod ho bb
    refine ⟨fun _ => HT4.out, ?_⟩
    refine takeG 20 (.binOp .eql 29 (.tmp 47) (.const (.int .i64 0)) 29) (some 48) (some (17, false)) (.bool true) (by kernel_rfl) (by kernel_rfl) (by kernel_rfl) (fun _ _ _ h => h) (fun o' wq e hS => exec_bin (u1 := .int .i64 0) (u2 := (.int .i64 0)) wq e (by kernel_rfl) (by kernel_rfl) (eqG_int ..) (eql_er 0 _)) HT4.out ?_
    refine takeG 21 (.pick (.tmp 45) (.const (Value.bool true)) (.tmp 48)) (some 49) (some (14, true)) (.bool true) (by kernel_rfl) (by kernel_rfl) (by kernel_rfl) (fun _ _ _ h => h) (fun o' wq e hS => exec_pick (b := false) wq e (by kernel_rfl) (by kernel_rfl)) HT4.out ?_
    refine takeG 22 (.pick (.tmp 42) (.tmp 49) (.const (Value.bool false))) (some 50) none (.bool true) (by kernel_rfl) (by kernel_rfl) (by kernel_rfl) (fun _ _ _ h => h) (fun o' wq e hS => exec_pick (b := true) wq e (by kernel_rfl) (by kernel_rfl)) HT4.out ?_
    refine lastS 23 (.assign (.tmp 50)) (some 4) (.bool true) (by kernel_rfl) (by kernel_rfl) (by kernel_rfl) HT4.out (fun o' e => exec_assign _ e (by kernel_rfl)) ?_
    simp only [put_some, put_none, List.setIfInBounds_toArray, List.set_cons_succ, List.set_cons_zero]
    have LFIN := Lib.hid (LW.out.trans ((LX.out.trans (LZ4.out.mono LX.out.size)).mono LW.out.size))
    clear HT0 HT1 HT2 HT3 HT4 LZ0 LZ1 LZ2 LZ3 LZ4
    go_wp2_with fail
    go_ret
    exact ⟨rfl, LFIN.out⟩
  · have HEA := Lib.hid hea
    clear hea
    refine region_anyZ (fun w' => Blk w' g5 25 #[.int .i64 La.base, .slice A3 La.snaps.length c3, .slice A4 La.dead.length c4] ∧ Blk w' g8 33 #[.int .i64 La.base, .slice A7 La.snaps.length c7, .slice A8 La.dead.length c8]) 24 (by kernel_rfl) ?_
    refine takeG 0 (.load 25 (.tmp 5)) (some 28) none (.agg #[.int .i64 La.base, .slice A3 La.snaps.length c3, .slice A4 La.dead.length c4]) (by kernel_rfl) (by kernel_rfl) (by kernel_rfl) (fun _ _ _ h => h) (fun o' wq e hS => exec_load (x := (.tmp 5)) e (by kernel_rfl) (load_rln hS.1)) HT0.out ?_
    refine takeG 1 (.load 33 (.tmp 8)) (some 29) none (.agg #[.int .i64 La.base, .slice A7 La.snaps.length c7, .slice A8 La.dead.length c8]) (by kernel_rfl) (by kernel_rfl) (by kernel_rfl) (fun _ _ _ h => h) (fun o' wq e hS => exec_load (x := (.tmp 8)) e (by kernel_rfl) (load_ln hS.2)) HT0.out ?_
    refine loneG 2 (.call ⟨.value (.func 15), #[(.tmp 29)], #[33]⟩) (some 30) none (by kernel_rfl) (by kernel_rfl) (by kernel_rfl) ?_
    intro o' ho hod
    refine wp_callC (f := 15) (args := #[.agg #[.int .i64 La.base, .slice A7 La.snaps.length c7, .slice A8 La.dead.length c8]]) (by cases o'; cases ho; kernel_rfl) (HBK.out _ LZ0.out) ?_
    rintro ee V1 ⟨BA, bq, rfl, hrs, hbq, bb⟩
    have LZ1 := Lib.hid (LZ0.out.trans (bb.mono LZ0.out.size))
    have HT1 := Lib.hid (HTT.out _ LZ1.out)
    have HRS1 := Lib.hid hrs
    refine ⟨.agg #[.int .i64 La.base, .slice BA La.snaps.length bq, .slice A8 La.dead.length c8], rfl, ?_⟩
    rw [hod]
    clear hod ho bb
    refine ⟨fun _ => HT1.out, ?_⟩
    refine loneG 3 (.call ⟨.value (.func 14), #[(.tmp 28), (.tmp 30)], #[25, 25]⟩) (some 31) none (by kernel_rfl) (by kernel_rfl) (by kernel_rfl) ?_
    intro o' ho hod
    refine wp_callC (f := 14) (args := #[.agg #[.int .i64 La.base, .slice A3 La.snaps.length c3, .slice A4 La.dead.length c4], .agg #[.int .i64 La.base, .slice BA La.snaps.length bq, .slice A8 La.dead.length c8]]) (by cases o'; cases ho; kernel_rfl) (HSL.out _ _ _ LZ1.out HRS1.out) ?_
    rintro ee V2 ⟨rfl, bb⟩
    have LZ2 := Lib.hid (LZ1.out.trans (bb.mono LZ1.out.size))
    have HT2 := Lib.hid (HTT.out _ LZ2.out)
    refine ⟨.bool true, rfl, ?_⟩
    rw [hod]
    clear hod ho bb
    refine ⟨fun _ => HT2.out, ?_⟩
    refine takeG 4 (.move (.tmp 31)) (some 32) none (.bool true) (by kernel_rfl) (by kernel_rfl) (by kernel_rfl) (fun _ _ _ h => h) (fun o' wq e hS => exec_move wq e (by kernel_rfl)) HT2.out ?_
    refine takeG 5 (.move (.tmp 6)) (some 33) (some (4, true)) (.slice A9 nf c9) (by kernel_rfl) (by kernel_rfl) (by kernel_rfl) (fun _ _ _ h => h) (fun o' wq e hS => exec_move wq e (by kernel_rfl)) HT2.out ?_
    refine takeG 6 (.move (.tmp 9)) (some 34) (some (4, true)) (.slice A10 nf c10) (by kernel_rfl) (by kernel_rfl) (by kernel_rfl) (fun _ _ _ h => h) (fun o' wq e hS => exec_move wq e (by kernel_rfl)) HT2.out ?_
    refine loneG 7 (.call ⟨.value (.func 20), #[(.tmp 33), (.tmp 34)], #[23, 23]⟩) (some 35) (some (4, true)) (by kernel_rfl) (by kernel_rfl) (by kernel_rfl) ?_
    intro o' ho hod
    refine wp_callC (f := 20) (args := #[.slice A9 nf c9, .slice A10 nf c10]) (by cases o'; cases ho; kernel_rfl) (HSA.out _ LZ2.out) ?_
    rintro ee V3 ⟨rfl, bb⟩
    have LZ3 := Lib.hid (LZ2.out.trans (bb.mono LZ2.out.size))
    have HT3 := Lib.hid (HTT.out _ LZ3.out)
    refine ⟨.bool true, rfl, ?_⟩
    rw [hod]
    clear hod ho bb
    refine ⟨fun _ => HT3.out, ?_⟩
    refine takeG 8 (.pick (.tmp 32) (.tmp 35) (.const (Value.bool false))) (some 36) none (.bool true) (by kernel_rfl) (by kernel_rfl) (by kernel_rfl) (fun _ _ _ h => h) (fun o' wq e hS => exec_pick (b := true) wq e (by kernel_rfl) (by kernel_rfl)) HT3.out ?_
    refine takeG 9 (.move (.tmp 36)) (some 37) none (.bool true) (by kernel_rfl) (by kernel_rfl) (by kernel_rfl) (fun _ _ _ h => h) (fun o' wq e hS => exec_move wq e (by kernel_rfl)) HT3.out ?_
    refine takeG 10 (.move (.tmp 7)) (some 38) (some (9, true)) (.int .i64 ea) (by kernel_rfl) (by kernel_rfl) (by kernel_rfl) (fun _ _ _ h => h) (fun o' wq e hS => exec_move wq e (by kernel_rfl)) HT3.out ?_
    refine takeG 11 (.move (.tmp 10)) (some 39) (some (9, true)) (.int .i64 ea) (by kernel_rfl) (by kernel_rfl) (by kernel_rfl) (fun _ _ _ h => h) (fun o' wq e hS => exec_move wq e (by kernel_rfl)) HT3.out ?_
    refine takeG 12 (.binOp .eql 29 (.tmp 38) (.tmp 39) 29) (some 40) (some (9, true)) (.bool true) (by kernel_rfl) (by kernel_rfl) (by kernel_rfl) (fun _ _ _ h => h) (fun o' wq e hS => exec_bin (u1 := .int .i64 ea) (u2 := .int .i64 ea) wq e (by kernel_rfl) (by kernel_rfl) (eqG_int ..) (eql_er ea _)) HT3.out ?_
    refine takeG 13 (.pick (.tmp 37) (.tmp 40) (.const (Value.bool false))) (some 41) none (.bool true) (by kernel_rfl) (by kernel_rfl) (by kernel_rfl) (fun _ _ _ h => h) (fun o' wq e hS => exec_pick (b := true) wq e (by kernel_rfl) (by kernel_rfl)) HT3.out ?_
    refine takeG 14 (.move (.tmp 41)) (some 42) none (.bool true) (by kernel_rfl) (by kernel_rfl) (by kernel_rfl) (fun _ _ _ h => h) (fun o' wq e hS => exec_move wq e (by kernel_rfl)) HT3.out ?_
    refine takeG 15 (.move (.tmp 7)) (some 43) (some (14, true)) (.int .i64 ea) (by kernel_rfl) (by kernel_rfl) (by kernel_rfl) (fun _ _ _ h => h) (fun o' wq e hS => exec_move wq e (by kernel_rfl)) HT3.out ?_
    refine takeG 16 (.binOp .neq 29 (.tmp 43) (.const (.int .i64 0)) 29) (some 44) (some (14, true)) (.bool true) (by kernel_rfl) (by kernel_rfl) (by kernel_rfl) (fun _ _ _ h => h) (fun o' wq e hS => exec_bin (u1 := .int .i64 ea) (u2 := (.int .i64 0)) wq e (by kernel_rfl) (by kernel_rfl) (eqG_int ..) (neq_er0 HEA.out _)) HT3.out ?_
    refine takeG 17 (.move (.tmp 44)) (some 45) (some (14, true)) (.bool true) (by kernel_rfl) (by kernel_rfl) (by kernel_rfl) (fun _ _ _ h => h) (fun o' wq e hS => exec_move wq e (by kernel_rfl)) HT3.out ?_
    refine takeSkip 18 (.load 33 (.tmp 8)) (some 46) (some (17, false)) (by kernel_rfl) (by kernel_rfl) (by kernel_rfl) (fun _ _ _ h => h) HT3.out ?_
    refine takeSkip 19 (.call ⟨.value (.func 9), #[(.tmp 46)], #[33]⟩) (some 47) (some (17, false)) (by kernel_rfl) (by kernel_rfl) (by kernel_rfl) (fun _ _ _ h => h) HT3.out ?_
    refine takeSkip 20 (.binOp .eql 29 (.tmp 47) (.const (.int .i64 0)) 29) (some 48) (some (17, false)) (by kernel_rfl) (by kernel_rfl) (by kernel_rfl) (fun _ _ _ h => h) HT3.out ?_
    refine takeG 21 (.pick (.tmp 45) (.const (Value.bool true)) (.tmp 48)) (some 49) (some (14, true)) (.bool true) (by kernel_rfl) (by kernel_rfl) (by kernel_rfl) (fun _ _ _ h => h) (fun o' wq e hS => exec_pick (b := true) wq e (by kernel_rfl) (by kernel_rfl)) HT3.out ?_
    refine takeG 22 (.pick (.tmp 42) (.tmp 49) (.const (Value.bool false))) (some 50) none (.bool true) (by kernel_rfl) (by kernel_rfl) (by kernel_rfl) (fun _ _ _ h => h) (fun o' wq e hS => exec_pick (b := true) wq e (by kernel_rfl) (by kernel_rfl)) HT3.out ?_
    refine lastS 23 (.assign (.tmp 50)) (some 4) (.bool true) (by kernel_rfl) (by kernel_rfl) (by kernel_rfl) HT3.out (fun o' e => exec_assign _ e (by kernel_rfl)) ?_
    simp only [put_some, put_none, List.setIfInBounds_toArray, List.set_cons_succ, List.set_cons_zero]
    have LFIN := Lib.hid (LW.out.trans ((LX.out.trans (LZ3.out.mono LX.out.size)).mono LW.out.size))
    clear HT0 HT1 HT2 HT3 LZ0 LZ1 LZ2 LZ3
    go_wp2_with fail
    go_ret
    exact ⟨rfl, LFIN.out⟩
end Dd
namespace deadGoes
theorem walk (L0 : Dd.Ln) (a0 b0 : Option Addr) (c0 e0 : Nat) (k : Int) (W : World) (f0 : Dd.Fit L0) (t0 : Dd.Tight L0) (y0 : Dd.RdS W a0 L0.snaps) (n0 : a0 = none → c0 = 0) (x0 : Dd.RdP W b0 L0.dead) (m0 : b0 = none → e0 = 0) (s0 : Dd.Small L0) (w4 : (Lit.int .i64 k).wf = true) :
    Calls Try.prog 4 #[.agg #[.int .i64 L0.base, .slice a0 L0.snaps.length c0, .slice b0 L0.dead.length e0], .int .i64 k] W fun e w' => e = .returned (.bool true) ∧ Below W.heap.size W w' :=
  Dd.goes_walk W L0 k a0 b0 c0 e0 f0 s0 y0 n0 x0 m0
end deadGoes
end Go.Proofs.Ytpoacgofbbfhcaa
