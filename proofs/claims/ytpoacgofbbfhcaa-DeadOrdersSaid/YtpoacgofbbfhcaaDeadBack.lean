/-
  The law's own 'back': a line as the document's, its lists shared. The conditions: the line can be read, its rows have room.
-/
import Derived.Test.YtpoacgofbbfhcaaDeadSnaps
namespace Go.Proofs.Ytpoacgofbbfhcaa
open Go Go.RowKit
set_option maxRecDepth 100000
set_option linter.unusedVariables false
namespace Dd
theorem exec_bld2 {P : Program} {a : Act} {o : Oper} {ty : TypeId} {i j : Nat} {x y : Operand} {u0 u1 r : Value} (w : World) (e : o.op = .build ty #[(i, x), (j, y)]) (hx : a.eval x = u0) (hy : a.eval y = u1)
    (hl : (Instr.build ty #[(i, u0), (j, u1)]).run P w = .ok r w) : (execOp a.eval o).run P w = .ok (.value r) w := by
  unfold execOp; simp only [e, List.map_toArray, List.map_cons, List.map_nil, hx, hy, hl, Sem.run_bind, Sem.run_pure, Result.andThen_ok]
def SB (ro b3 g o i : Nat) (bs t : Int) (n c : Nat) (A' : Option Addr) (m c' : Nat) (v : Value) (A2 : Option Addr) (m2 c2 : Nat) (W : World) : Prop :=
  (Blk W ro 33 #[.int .i64 bs, .slice (some ⟨g, o, none⟩) n c, .slice A' m c'] ∧ Blk W b3 25 #[.int .i64 bs, v, .slice A' m c']) ∧ W.cell? ⟨g, o + i * 2, none⟩ = some (.int .i64 t) ∧ W.cell? ⟨g, o + i * 2 + 1, none⟩ = some (.slice A2 m2 c2)
def BackPost (w : World) (L : Ln) (A' : Option Addr) (m c' : Nat) (e : Ending) (w' : World) : Prop := ∃ B q, e = .returned (.agg #[.int .i64 L.base, .slice B L.snaps.length q, .slice A' m c']) ∧ RdS w' B L.snaps ∧ (B = none → q = 0) ∧ Below w.heap.size w w'
set_option maxHeartbeats 12800000 in
theorem back_at (w : World) (L : Ln) (A A' : Option Addr) (c c' m : Nat) (hf : Fit L) (hs : RdS w A L.snaps) :
    Calls Try.prog 15 #[.agg #[.int .i64 L.base, .slice A L.snaps.length c, .slice A' m c']] w fun e w' => BackPost w L A' m c' e w' := by
  obtain ⟨n, hn⟩ : ∃ n, n = L.snaps.length := ⟨_, rfl⟩
  have HN := Lib.hid hn
  have HF := Lib.hid hf
  have HRS := Lib.hid hs
  have hnr : n * 32 ≤ 140737488351432 := by rw [hn]; exact hf.rs
  rw [← hn]
  obtain ⟨bs, hbs⟩ : ∃ bs, bs = L.base := ⟨_, rfl⟩
  have HBS := Lib.hid hbs
  rw [← hbs]
  obtain ⟨W1, hW1⟩ : ∃ W1, W1 = (w.alloc (.cells #[.int .i64 bs, .slice A n c, .slice A' m c'] 33)).alloc (.cells #[.int .i64 0, .slice none 0 0, .slice none 0 0] 25) := ⟨_, rfl⟩
  obtain ⟨W, hW⟩ : ∃ W, W = W1.alloc (.cells #[.int .i64 bs, .slice none 0 0, .slice A' m c'] 25) := ⟨_, rfl⟩
  obtain ⟨ro, hro⟩ : ∃ ro, ro = w.heap.size := ⟨_, rfl⟩
  have hs0 : (w.alloc (.cells #[.int .i64 bs, .slice A n c, .slice A' m c'] 33)).heap.size = ro + 1 := by rw [hro]; simp
  have hs1 : W1.heap.size = ro + 2 := by rw [hW1, hro]; simp
  obtain ⟨b2, hb2⟩ : ∃ b2, b2 = ro + 1 := ⟨_, rfl⟩
  obtain ⟨b3, hb3⟩ : ∃ b3, b3 = ro + 2 := ⟨_, rfl⟩
  have hbel1 : Below w.heap.size w W1 := by rw [hW1]; exact ((Below.refl _ _).alloc (Nat.le_refl _) _).alloc (by rw [hs0, hro]; omega) _
  have hbel : Below w.heap.size w W := by rw [hW]; exact hbel1.alloc hbel1.size _
  have X1 : Blk W1 ro 33 #[.int .i64 bs, .slice A n c, .slice A' m c'] := by rw [hW1, hro]; exact (Blk.new _ _ _).alloc _
  have X2 : Blk W1 b2 25 #[.int .i64 0, .slice none 0 0, .slice none 0 0] := by
    have h := Blk.new (w.alloc (.cells #[.int .i64 bs, .slice A n c, .slice A' m c'] 33)) 25 #[.int .i64 0, .slice none 0 0, .slice none 0 0]
    rw [hs0, ← hb2] at h
    rw [hW1]
    exact h
  have X3 : Blk W b3 25 #[.int .i64 bs, .slice none 0 0, .slice A' m c'] := by
    have h := Blk.new W1 25 #[.int .i64 bs, .slice none 0 0, .slice A' m c']
    rw [hs1, ← hb3] at h
    rw [hW]
    exact h
  obtain ⟨B, hB⟩ : ∃ B, B = W.heap.size := ⟨_, rfl⟩
  have hBv : B = ro + 3 := by rw [hB, hW]; simp [hs1]
  have HX1 : Hid (Blk W ro 33 #[.int .i64 bs, .slice A n c, .slice A' m c']) := Lib.hid (by rw [hW]; exact X1.alloc _)
  have HX2 : Hid (Blk W b2 25 #[.int .i64 0, .slice none 0 0, .slice none 0 0]) := Lib.hid (by rw [hW]; exact X2.alloc _)
  have HX3 := Lib.hid X3
  have HNB : Hid (ro = w.heap.size ∧ b2 = ro + 1 ∧ b3 = ro + 2 ∧ B = ro + 3) := Lib.hid ⟨hro, hb2, hb3, hBv⟩
  have LW := Lib.hid hbel
  have d0 : W1.cell? ⟨ro, 0, none⟩ = some (.int .i64 bs) := X1.cell 0
  have d2 : W1.cell? ⟨ro, 2, none⟩ = some (.slice A' m c') := X1.cell 2
  have HV0 : Hid (Gr.OwnG 72 2 csV W B (.slice none 0 0) []) := Lib.hid (Gr.OwnG.nil _ _)
  have HH0 : Hid (Holds w [] (L.snaps.take 0)) := Lib.hid (Holds.nil w)
  have HBs : Hid (B ≤ W.heap.size) := Lib.hid (by omega)
  clear hn hf hs hbs hbel hbel1 X1 X2 X3 hs0 hB
  go_enter Try.func15, Try.ntmps15
  go_upto_region 1 with (fail)
  rw [← hro, ← hb2, ← hW1]
  have HSZ1 := Lib.hid (hs1.trans hb3.symm)
  have HWE := Lib.hid hW
  clear hW1 hro hb2 hb3 hs1 hW hBv
  go_upto_region 2 with (fail)
  rw [HSZ1.out, ← HWE.out]
  clear d0 d2
  go_wp2_with fail
  go_loopw [4] (fun y wr => ∃ (i : Nat) (vs : List SV) (v : Value), i ≤ n ∧ y = .int .i64 (i : Int) ∧ Hid (Blk wr ro 33 #[.int .i64 bs, .slice A n c, .slice A' m c']) ∧ Hid (Blk wr b2 25 #[.int .i64 0, .slice none 0 0, .slice none 0 0]) ∧ Hid (Blk wr b3 25 #[.int .i64 bs, v, .slice A' m c']) ∧ Hid (Gr.OwnG 72 2 csV wr B v vs) ∧ Hid (Holds w vs (L.snaps.take i)) ∧ Hid (Below w.heap.size w wr) ∧ Hid (B ≤ wr.heap.size)) (fun y _ => n - (intOf y).toNat)
  case atStart => exact ⟨0, [], _, by omega, rfl, HX1, HX2, HX3, HV0, HH0, LW, HBs⟩
  case round =>
    clear HX1 HX2 HX3 HV0 HH0 LW HBs
    obtain ⟨i, vs, v, hi, rfl, HX1, HX2, HX3, HV, HH, LW, HBs⟩ := hrel
    have c0 : wr.cell? ⟨ro, 1, none⟩ = some (.slice A n c) := HX1.out.cell 1
    by_cases hlt : i < n
    · have i1 : (i : Int) < (n : Int) := by omega
      have hil : i < L.snaps.length := by have := HN.out; omega
      obtain ⟨s, hse⟩ : ∃ s, s = L.snaps[i] := ⟨_, rfl⟩
      have hsi : L.snaps[i]? = some s := by rw [hse]; exact List.getElem?_eq_getElem hil
      obtain ⟨g, o, A2, c2, hA, hgb, k0, k1, hrp, hrn⟩ := HRS.out i s hsi
      obtain ⟨m2, hm2⟩ : ∃ m2, m2 = s.dead.length := ⟨_, rfl⟩
      obtain ⟨t, ht⟩ : ∃ t, t = s.txg := ⟨_, rfl⟩
      rw [← ht] at k0
      rw [← hm2] at k1
      have hvl : vs.length = i := by rw [HH.out.1, List.length_take]; omega
      have HTK : Hid (∀ x : SV, x = ⟨t, A2, m2, c2⟩ → Holds w (vs ++ [x]) (L.snaps.take (i + 1))) := Lib.hid fun x hx => by
        rw [List.take_succ_eq_append_getElem hil, ← hse]
        subst hx
        exact HH.out.snoc ht hm2 hrp hrn
      have HVL : Hid ((vs.length + 1) * 32 ≤ 140737488355328) := Lib.hid (by omega)
      subst hA
      have HCC : Hid (∀ W2, Below w.heap.size w W2 → W2.cell? ⟨g, o + i * 2, none⟩ = some (.int .i64 t) ∧ W2.cell? ⟨g, o + i * 2 + 1, none⟩ = some (.slice A2 m2 c2)) := Lib.hid fun W2 hb2 => ⟨(hb2.cell (p := ⟨g, o + i * 2, none⟩) hgb).trans k0, (hb2.cell (p := ⟨g, o + i * 2 + 1, none⟩) hgb).trans k1⟩
      have HS : Hid (SB ro b3 g o i bs t n c A' m c' v A2 m2 c2 wr.drew) := Lib.hid ⟨⟨HX1.out, HX3.out⟩, HCC.out _ LW.out.drew⟩
      have HV1 : Hid (Gr.OwnG 72 2 csV wr.drew B v vs) := Lib.hid (HV.out.keep fun _ _ => rfl)
      clear hil hse hsi hgb k0 k1 hrp hrn hm2 ht hvl HV
      go_upto_region 5 with (fail)
      refine region_anyZ (SB ro b3 g o i bs t n c A' m c' v A2 m2 c2) 18 (by kernel_rfl) ?_
      refine takeG 0 (.fieldAddr 25 (.tmp 3) 1) (some 17) none (.pointer (some ⟨b3, 1, none⟩)) (by kernel_rfl) (by kernel_rfl) (by kernel_rfl) (fun _ _ _ h => h) (fun o' wq e hS => exec_field (u := .pointer (some ⟨b3, 0, none⟩)) wq e (by kernel_rfl) (by kernel_rfl)) HS.out ?_
      refine takeG 1 (.load 22 (.tmp 17)) (some 18) none (v) (by kernel_rfl) (by kernel_rfl) (by kernel_rfl) (fun _ _ _ h => h) (fun o' wq e hS => exec_load (x := (.tmp 17)) e (by kernel_rfl) (load_one Try.underlying22 (by kernel_rfl) (hS.1.2.cell 1))) HS.out ?_
      refine takeG 2 (.fieldAddr 33 (.tmp 1) 1) (some 19) none (.pointer (some ⟨ro, 1, none⟩)) (by kernel_rfl) (by kernel_rfl) (by kernel_rfl) (fun _ _ _ h => h) (fun o' wq e hS => exec_field (u := .pointer (some ⟨ro, 0, none⟩)) wq e (by kernel_rfl) (by kernel_rfl)) HS.out ?_
      refine takeG 3 (.load 31 (.tmp 19)) (some 20) none (.slice (some ⟨g, o, none⟩) n c) (by kernel_rfl) (by kernel_rfl) (by kernel_rfl) (fun _ _ _ h => h) (fun o' wq e hS => exec_load (x := (.tmp 19)) e (by kernel_rfl) (load_one Try.underlying31 (by kernel_rfl) (hS.1.1.cell 1))) HS.out ?_
      refine takeG 4 (.move (.tmp 4)) (some 21) none (.int .i64 (i : Int)) (by kernel_rfl) (by kernel_rfl) (by kernel_rfl) (fun _ _ _ h => h) (fun o' wq e hS => exec_move wq e (by kernel_rfl)) HS.out ?_
      refine takeG 5 (.indexAddr 31 (.tmp 20) (.tmp 21)) (some 22) none (.pointer (some ⟨g, o + i * 2, none⟩)) (by kernel_rfl) (by kernel_rfl) (by kernel_rfl) (fun _ _ _ h => h) (fun o' wq e hS => exec_index (u1 := .slice (some ⟨g, o, none⟩) n c) (u2 := .int .i64 (i : Int)) wq e (by kernel_rfl) (by kernel_rfl) (index_sn g o n c i hlt _)) HS.out ?_
      refine takeG 6 (.fieldAddr 65 (.tmp 22) 0) (some 23) none (.pointer (some ⟨g, o + i * 2, none⟩)) (by kernel_rfl) (by kernel_rfl) (by kernel_rfl) (fun _ _ _ h => h) (fun o' wq e hS => exec_field (u := .pointer (some ⟨g, o + i * 2, none⟩)) wq e (by kernel_rfl) (by kernel_rfl)) HS.out ?_
      refine takeG 7 (.load 3 (.tmp 23)) (some 24) none (.int .i64 t) (by kernel_rfl) (by kernel_rfl) (by kernel_rfl) (fun _ _ _ h => h) (fun o' wq e hS => exec_load (x := (.tmp 23)) e (by kernel_rfl) (load_one Try.underlying3 (by kernel_rfl) hS.2.1)) HS.out ?_
      refine takeG 8 (.fieldAddr 33 (.tmp 1) 1) (some 25) none (.pointer (some ⟨ro, 1, none⟩)) (by kernel_rfl) (by kernel_rfl) (by kernel_rfl) (fun _ _ _ h => h) (fun o' wq e hS => exec_field (u := .pointer (some ⟨ro, 0, none⟩)) wq e (by kernel_rfl) (by kernel_rfl)) HS.out ?_
      refine takeG 9 (.load 31 (.tmp 25)) (some 26) none (.slice (some ⟨g, o, none⟩) n c) (by kernel_rfl) (by kernel_rfl) (by kernel_rfl) (fun _ _ _ h => h) (fun o' wq e hS => exec_load (x := (.tmp 25)) e (by kernel_rfl) (load_one Try.underlying31 (by kernel_rfl) (hS.1.1.cell 1))) HS.out ?_
      refine takeG 10 (.move (.tmp 4)) (some 27) none (.int .i64 (i : Int)) (by kernel_rfl) (by kernel_rfl) (by kernel_rfl) (fun _ _ _ h => h) (fun o' wq e hS => exec_move wq e (by kernel_rfl)) HS.out ?_
      refine takeG 11 (.indexAddr 31 (.tmp 26) (.tmp 27)) (some 28) none (.pointer (some ⟨g, o + i * 2, none⟩)) (by kernel_rfl) (by kernel_rfl) (by kernel_rfl) (fun _ _ _ h => h) (fun o' wq e hS => exec_index (u1 := .slice (some ⟨g, o, none⟩) n c) (u2 := .int .i64 (i : Int)) wq e (by kernel_rfl) (by kernel_rfl) (index_sn g o n c i hlt _)) HS.out ?_
      refine takeG 12 (.fieldAddr 65 (.tmp 28) 1) (some 29) none (.pointer (some ⟨g, o + i * 2 + 1, none⟩)) (by kernel_rfl) (by kernel_rfl) (by kernel_rfl) (fun _ _ _ h => h) (fun o' wq e hS => exec_field (u := .pointer (some ⟨g, o + i * 2, none⟩)) wq e (by kernel_rfl) (by kernel_rfl)) HS.out ?_
      refine takeG 13 (.load 23 (.tmp 29)) (some 30) none (.slice A2 m2 c2) (by kernel_rfl) (by kernel_rfl) (by kernel_rfl) (fun _ _ _ h => h) (fun o' wq e hS => exec_load (x := (.tmp 29)) e (by kernel_rfl) (load_one Try.underlying23 (by kernel_rfl) hS.2.2)) HS.out ?_
      refine takeG 14 (.build 72 #[(0, (.tmp 24)), (1, (.tmp 30))]) (some 31) none (.agg #[.int .i64 t, .slice A2 m2 c2]) (by kernel_rfl) (by kernel_rfl) (by kernel_rfl) (fun _ _ _ h => h) (fun o' wq e hS => exec_bld2 (u0 := .int .i64 t) (u1 := .slice A2 m2 c2) wq e (by kernel_rfl) (by kernel_rfl) (by kernel_rfl)) HS.out ?_
      refine loneG 15 (.buildSlice 22 1 #[(0, (.tmp 31))]) (some 32) none (by kernel_rfl) (by kernel_rfl) (by kernel_rfl) ?_
      intro o' ho hod
      refine wp_val (exec_buildSlice1 ho (by kernel_rfl) (bs_rs t A2 m2 c2 _)) ?_
      rw [hod]
      clear hod ho
      have hbx : Below wr.heap.size wr.drew (wr.drew.alloc (.cells #[.int .i64 t, .slice A2 m2 c2] 72)) := (Below.refl wr.heap.size wr.drew).alloc (Nat.le_refl _) _
      have HS5 : Hid (SB ro b3 g o i bs t n c A' m c' v A2 m2 c2 (wr.drew.alloc (.cells #[.int .i64 t, .slice A2 m2 c2] 72))) := Lib.hid ⟨⟨HS.out.1.1.alloc _, HS.out.1.2.alloc _⟩, HCC.out _ (LW.out.drew.trans (hbx.mono LW.out.size))⟩
      clear hbx
      refine ⟨fun _ => HS5.out, ?_⟩
      refine loneG 16 (.call ⟨.builtin .append, #[(.tmp 18), (.tmp 32)], #[22, 22]⟩) (some 33) none (by kernel_rfl) (by kernel_rfl) (by kernel_rfl) ?_
      intro o' ho hod
      obtain ⟨v2, w2, hrun, ho2, hb2, hsz2, hkp⟩ := append_sv (TS := 22) Try.underlying22 info_rs HV1.out ⟨t, A2, m2, c2⟩ HVL.out HBs.out o'.type
      refine Gr.wp_append 22 (.tmp 18) (.tmp 32) ho (by kernel_rfl) (by kernel_rfl) hrun ?_
      rw [hod]
      clear hod ho
      have HBB2 := Lib.hid hb2
      have hle : w.heap.size ≤ B := by have := HNB.out; omega
      have Y1 : Hid (Blk w2 ro 33 #[.int .i64 bs, .slice (some ⟨g, o, none⟩) n c, .slice A' m c']) := Lib.hid (HS.out.1.1.below hb2 (by have := HNB.out; omega))
      have Y2 : Hid (Blk w2 b2 25 #[.int .i64 0, .slice none 0 0, .slice none 0 0]) := Lib.hid ((show Blk wr.drew b2 25 #[.int .i64 0, .slice none 0 0, .slice none 0 0] from HX2.out).below hb2 (by have := HNB.out; omega))
      have Y3 : Hid (Blk w2 b3 25 #[.int .i64 bs, v, .slice A' m c']) := Lib.hid (HS.out.1.2.below hb2 (by have := HNB.out; omega))
      have YL : Hid (Below w.heap.size w w2) := Lib.hid (LW.out.drew.trans (hb2.mono hle))
      have HS6 : Hid (SB ro b3 g o i bs t n c A' m c' v A2 m2 c2 w2) := Lib.hid ⟨⟨Y1.out, Y3.out⟩, HCC.out _ YL.out⟩
      have Z1 : Hid (Blk (w2.setCell ⟨b3, 1, none⟩ v2) ro 33 #[.int .i64 bs, .slice (some ⟨g, o, none⟩) n c, .slice A' m c']) := Lib.hid (Y1.out.far (p := ⟨b3, 1, none⟩) (by show ro ≠ b3; have := HNB.out; omega) _)
      have Z2 : Hid (Blk (w2.setCell ⟨b3, 1, none⟩ v2) b2 25 #[.int .i64 0, .slice none 0 0, .slice none 0 0]) := Lib.hid (Y2.out.far (p := ⟨b3, 1, none⟩) (by show b2 ≠ b3; have := HNB.out; omega) _)
      have Z3 : Hid (Blk (w2.setCell ⟨b3, 1, none⟩ v2) b3 25 #[.int .i64 bs, v2, .slice A' m c']) := Lib.hid (Y3.out.set_ 1 v2)
      have ZV : Hid (Gr.OwnG 72 2 csV (w2.setCell ⟨b3, 1, none⟩ v2) B v2 (vs ++ [⟨t, A2, m2, c2⟩])) := Lib.hid (ho2.keep fun g hg => Below.heap_setCell w2 ⟨b3, 1, none⟩ v2 g (by show g ≠ b3; have := (ho2.lt hg).2; have := HNB.out; omega))
      have ZH := Lib.hid (HTK.out _ rfl)
      have ZL : Hid (Below w.heap.size w (w2.setCell ⟨b3, 1, none⟩ v2)) := Lib.hid (YL.out.setCell (p := ⟨b3, 1, none⟩) (by show w.heap.size ≤ b3; have := HNB.out; omega) _)
      have ZB : Hid (B ≤ (w2.setCell ⟨b3, 1, none⟩ v2).heap.size) := Lib.hid (by simp [World.setCell]; exact Nat.le_trans HBs.out hsz2)
      have hvc : v2.cells = #[v2] ∧ v2.oneCell' = true := by
        obtain ⟨A9, c9, e9, _⟩ := ho2.shape (fun _ => rfl)
        rw [e9]
        exact ⟨rfl, rfl⟩
      have HVC := Lib.hid hvc
      clear hvc hle hkp hsz2 hb2 ho2
      refine ⟨fun _ => HS6.out, ?_⟩
      refine takeG 17 (.fieldAddr 25 (.tmp 3) 1) (some 34) none (.pointer (some ⟨b3, 1, none⟩)) (by kernel_rfl) (by kernel_rfl) (by kernel_rfl) (fun _ _ _ h => h) (fun o' wq e hS => exec_field (u := .pointer (some ⟨b3, 0, none⟩)) wq e (by kernel_rfl) (by kernel_rfl)) HS6.out ?_
      refine lastStore 18 22 (.tmp 34) (.tmp 33) (.pointer (some ⟨b3, 1, none⟩)) v2 _ (by kernel_rfl) (by kernel_rfl) (by kernel_rfl) rfl (by kernel_rfl) (by kernel_rfl) (store_one size_slr HVC.out.1 HVC.out.2 (by rw [Y3.out.cell 1]; rfl) (Y3.out.frozen 1) (by rw [add_plain])) ?_
      simp only [put_some, put_none, List.setIfInBounds_toArray, List.set_cons_succ, List.set_cons_zero]
      clear hrun
      go_wp2_with fail
      go_roundw
      case rel => exact ⟨i + 1, _, _, by omega, by go_num, Z1, Z2, Z3, ZV, ZH, ZL, ZB⟩
      case measure => simp [intOf]; omega
    · obtain rfl : i = n := by omega
      have i1 : ¬ ((i : Int) < (i : Int)) := by omega
      have hvl : vs.length = i := by rw [HH.out.1, List.length_take]; have := HN.out; omega
      obtain ⟨B1, q1, hv, _, _, _, hbn, hbb⟩ := HV.out.shape (fun _ => rfl)
      rw [hvl] at hv
      have HV2 := HV
      have HX3' := HX3
      rw [hv] at HV2 HX3'
      have HHN : Hid (Holds w vs L.snaps) := Lib.hid (by
        have := HH.out
        rw [List.take_of_length_le (by have := HN.out; omega)] at this
        exact this)
      have HBN := Lib.hid hbn
      have q0 : wr.cell? ⟨b3, 0, none⟩ = some (.int .i64 bs) := HX3'.out.cell 0
      have q1' : wr.cell? ⟨b3, 1, none⟩ = some (.slice B1 i q1) := HX3'.out.cell 1
      have q2 : wr.cell? ⟨b3, 2, none⟩ = some (.slice A' m c') := HX3'.out.cell 2
      have p0 : wr.cell? ⟨b2, 0, none⟩ = some (.int .i64 0) := HX2.out.cell 0
      have p1 : wr.cell? ⟨b2, 1, none⟩ = some (.slice none 0 0) := HX2.out.cell 1
      have p2 : wr.cell? ⟨b2, 2, none⟩ = some (.slice none 0 0) := HX2.out.cell 2
      have pf0 : wr.frozen? ⟨b2, 0, none⟩ = false := HX2.out.frozen 0
      have pf1 : wr.frozen? ⟨b2, 1, none⟩ = false := HX2.out.frozen 1
      have pf2 : wr.frozen? ⟨b2, 2, none⟩ = false := HX2.out.frozen 2
      clear hlt hv hvl hbn hbb HX3 HV
      go_wp2_with fail
      have T4 := ((HX2.out.set_ 0 (.int .i64 bs)).set_ 1 (.slice B1 i q1)).set_ 2 (.slice A' m c')
      refine bodyPost_ret (results_cell rfl rfl (loadVar_blk T4 Try.underlying25 rfl size_rln)) rfl ?_
      have hsz2 : w.heap.size ≤ b2 := by have := HNB.out; omega
      have hbz : Below w.heap.size w (((wr.setCell ⟨b2, 0, none⟩ (.int .i64 bs)).setCell ⟨b2, 1, none⟩ (.slice B1 i q1)).setCell ⟨b2, 2, none⟩ (.slice A' m c')) := ((LW.out.setCell (p := ⟨b2, 0, none⟩) hsz2 _).setCell (p := ⟨b2, 1, none⟩) hsz2 _).setCell (p := ⟨b2, 2, none⟩) hsz2 _
      have hown : Gr.OwnG 72 2 csV (((wr.setCell ⟨b2, 0, none⟩ (.int .i64 bs)).setCell ⟨b2, 1, none⟩ (.slice B1 i q1)).setCell ⟨b2, 2, none⟩ (.slice A' m c')) B (.slice B1 i q1) vs := HV2.out.keep fun g hg => by
        have hne : g ≠ b2 := by have := (HV2.out.lt hg).2; have := HNB.out; omega
        exact ((Below.heap_setCell _ ⟨b2, 2, none⟩ _ g hne).trans (Below.heap_setCell _ ⟨b2, 1, none⟩ _ g hne)).trans (Below.heap_setCell _ ⟨b2, 0, none⟩ _ g hne)
      refine ⟨B1, q1, ?_, rds_of hown (HHN.out.below hbz), HBN.out, hbz⟩
      rw [← HN.out, ← HBS.out]
      rfl
end Dd
end Go.Proofs.Ytpoacgofbbfhcaa
