/-
  'Copy' of a space by a contract: another one that keeps the same, in memory of its own.
-/
import Derived.Test.YtpbojhjbjnoihaaSpcDupRel
import Derived.Test.YtpbojhjbjnoihaaSpcThree
namespace Go.Proofs.Ytpbojhjbjnoihaa
open Go Go.RowKit
set_option maxRecDepth 100000
set_option linter.unusedVariables false
namespace Sp
theorem ranges_newI {w w' : World} {b r n cnt : Nat} {D : DataW Value} {left : Lit → Bool} (h : w.ranges Try.prog 64 RVi b r n D left cnt) (k : Below w.heap.size w w') : w'.ranges Try.prog 64 RVi b r n D left cnt := by
  obtain ⟨es, clock, since, seen, c0, e1, e2, e3, e4, e5, e6⟩ := h
  exact ⟨es, clock, since, seen, c0, (k.block b (Array.getElem?_eq_some_iff.1 e1).1).trans e1, e2, e3, e4, (k.block r (Array.getElem?_eq_some_iff.1 e5).1).trans e5, e6⟩
theorem ranges_drewI {w : World} {b r n cnt : Nat} {D : DataW Value} {left : Lit → Bool} (h : w.ranges Try.prog 64 RVi b r n D left cnt) : w.drew.ranges Try.prog 64 RVi b r n D left cnt := h
theorem load_partC {W : World} {g n c : Nat} {A : Option Addr} {x : Int} (h : Blk W g 60 #[.slice A n c, .int .i64 x]) : (Instr.loadAt 60 (.pointer (some ⟨g, 0, none⟩))).run Try.prog W = .ok (.agg #[.slice A n c, .int .i64 x]) W :=
  load_blk h Try.underlying60 rfl size_part
theorem next_key {D : DataW Value} {F : Nat → Option Value} {x c : Value} {kl : Lit} {y : DataW Value} {ps : List MemPlace} (h3 : ∀ k, k < 4611686018427387904 → ∀ zd, D.atKey (ilit k) zd = (F k).elim zd .held) (h4 : ∀ l, Maps.has D l = true → ∃ k, k < 3 ∧ l = ilit k)
    (hkey : keyOf Try.prog 64 x = some kl) (hv : RVi c = some (y, ps)) (hat : ∀ zd, D.atKey kl zd = y) : ∃ k : Nat, k < 3 ∧ x = .int .i64 (k : Int) ∧ kl = ilit k ∧ F k = some c := by
  have hh := Maps.has_true_of_atKey hat
  obtain ⟨k, hk, rfl⟩ := h4 _ hh
  obtain ⟨z, e1, e2, _⟩ := Maps.keyOf_int_inv Try.underlying64 hkey
  unfold ilit at e2
  injection e2 with _ e2
  refine ⟨k, hk, by rw [e1, e2], rfl, ?_⟩
  injection hv with hv
  injection hv with hv _
  subst hv
  have h5 := (h3 k (by omega) (.held (.int .i64 0))).symm.trans (hat _)
  have h6 := (h3 k (by omega) (.held (.int .i64 1))).symm.trans (hat _)
  cases hF : F k with
  | none => rw [hF] at h5 h6; simp only [Option.elim] at h5 h6; rw [← h5] at h6; cases h6
  | some v => rw [hF] at h5; simp only [Option.elim] at h5; injection h5 with h5; rw [h5]
set_option maxHeartbeats 3200000 in
theorem dup_sp {w : World} {base b m n : Nat} {F : Nat → Option Value} {V : Nat → Value} {s : SS} (h : Spc w base b m n F V s) (hbs : base ≤ w.heap.size) :
    Calls Try.prog 10 #[.pointer (some ⟨b, 0, none⟩)] w fun er w' => ∃ b2 m2 F2 V2, er = .returned (.pointer (some ⟨b2, 0, none⟩)) ∧ Spc w' w.heap.size b2 m2 3 F2 V2 s ∧ Below w.heap.size w w' := by
  have hmk : ∀ w : World, (Instr.makeMap 61 none).run Try.prog w = .ok (.map (some w.heap.size)) (w.alloc (.map #[] 0)) := fun w => by kernel_rfl
  have c0 : w.cell? ⟨b, 0, none⟩ = some (.int .i64 (s.cells : Int)) := h.mem.blk.cell 0
  have c1 : w.cell? ⟨b, 1, none⟩ = some (.int .i64 (s.kept : Int)) := h.mem.blk.cell 1
  have e0 : (w.alloc (.map #[] 0)).cell? ⟨b, 0, none⟩ = some (.int .i64 (s.cells : Int)) := (h.mem.blk.alloc _).cell 0
  have e1 : (w.alloc (.map #[] 0)).cell? ⟨b, 1, none⟩ = some (.int .i64 (s.kept : Int)) := (h.mem.blk.alloc _).cell 1
  have HSW := Lib.hid h
  obtain ⟨m2, hm2⟩ : ∃ m2, m2 = w.heap.size := ⟨_, rfl⟩
  obtain ⟨b2, hb2⟩ : ∃ b2, b2 = w.heap.size + 1 := ⟨_, rfl⟩
  have hb2m : b2 = m2 + 1 := by rw [hb2, hm2]
  obtain ⟨W0, hW0⟩ : ∃ W0, W0 = ((w.alloc (.map #[] 0)).alloc (.cells #[.int .i64 (s.cells : Int), .int .i64 (s.kept : Int), .map (some m2)] 63)).drew := ⟨_, rfl⟩
  have hs0 : (w.alloc (.map #[] 0)).heap.size = w.heap.size + 1 := by simp
  have HBW : Hid (Below w.heap.size w W0) := Lib.hid (by rw [hW0]; exact (((Below.refl _ _).alloc (Nat.le_refl _) _).alloc (by rw [hs0]; omega) _).drew)
  have HB2 : Hid (Blk W0 b2 63 #[.int .i64 (s.cells : Int), .int .i64 (s.kept : Int), .map (some m2)]) := Lib.hid (by
    have h1 := Blk.new (w.alloc (.map #[] 0)) 63 #[.int .i64 (s.cells : Int), .int .i64 (s.kept : Int), .map (some m2)]
    rw [hs0, ← hb2] at h1
    rw [hW0]
    exact h1.drew)
  have HM2 : Hid (MapI W0 m2 0 (fun _ => none)) := Lib.hid (by rw [hW0, hm2]; exact ((MapI.made w).alloc _).drew)
  have HS0 : Hid (W0.heap.size = w.heap.size + 2) := Lib.hid (by rw [hW0]; simp)
  have HSP : Hid (Spc W0 base b m n F V s) := Lib.hid ⟨h.mem.below HBW.out (Nat.le_refl _), h.good⟩
  have d2 : W0.cell? ⟨b, 2, none⟩ = some (.map (some m)) := HSP.out.mem.blk.cell 2
  obtain ⟨D, hown, him, hat, hin⟩ := HSP.out.mem.map
  have HOWN := Lib.hid hown
  have HAT := Lib.hid hat
  have HIN := Lib.hid hin
  have HMM : Hid (m2 = w.heap.size ∧ b2 = m2 + 1) := Lib.hid ⟨hm2, hb2m⟩
  have HML : Hid (m < w.heap.size) := Lib.hid h.mem.map.lt
  obtain ⟨r, hr⟩ : ∃ r, r = W0.heap.size := ⟨_, rfl⟩
  have HR := Lib.hid hr
  have ST : Hid (DupRel W0 w.heap.size m2 F s (Maps.has D) (fun _ => none) (fun _ => .slice none 0 0)) := Lib.hid (DupRel.start W0 (fun k hk => by
    unfold dn
    cases hF : F k with
    | none => rfl
    | some v =>
      have h1 : ∀ zd, D.atKey (ilit k) zd = .held v := fun zd => by rw [HAT.out k (by omega) zd, hF]; rfl
      rw [Maps.has_true_of_atKey h1]
      rfl) HM2.out)
  clear h hown him hat hin hb2m hs0 HM2
  go_enter Try.func10, Try.ntmps10
  go_upto_region 3 with (fail)
  go_region
  go_upto_region 4 with (fail)
  rw [← hb2, ← hm2, ← hW0]
  clear hW0 hb2 hm2 c0 c1 e0 e1 hmk hr
  go_wp2_with (at_range; refine wpList_range_own _ rfl (.tmp 22) 61 rfl 64 60 keyedI Try.underlying61 RVi m n D rfl HOWN.out ?_; intro w0 hrg0 hg0 hs1)
  go_frame
  rw [← HR.out] at hrg0 ⊢
  have RG := Lib.hid hrg0
  have BL0 : Below W0.heap.size W0 w0 := ⟨hg0.os, hg0.tape, hg0.output, hg0.size, fun i hi => hg0.block i hi (by simp)⟩
  have ST0 := Lib.hid (ST.out.keep BL0)
  have HB0 := Lib.hid (HB2.out.below BL0 HB2.out.lt)
  have LW0 := Lib.hid (HBW.out.trans (BL0.mono HBW.out.size))
  have hsz : r + 1 ≤ w0.heap.size := by rw [hs1, ← HR.out]; exact Nat.le_refl _
  clear hrg0 hg0 hs1 BL0 ST HB2 HBW d2
  go_loopw [] (fun wr => ∃ (left : Lit → Bool) (ct : Nat) (G : Nat → Option Value) (V2 : Nat → Value), Hid (wr.ranges Try.prog 64 RVi m r n D left ct) ∧ Hid (DupRel wr w.heap.size m2 F s left G V2) ∧ Hid (Blk wr b2 63 #[.int .i64 (s.cells : Int), .int .i64 (s.kept : Int), .map (some m2)]) ∧ Hid (Below w.heap.size w wr) ∧ r + 1 ≤ wr.heap.size) (fun wr => wr.rangeLeft m r)
  case atStart => exact ⟨_, _, _, _, RG, ST0, HB0, LW0, hsz⟩
  case round =>
    obtain ⟨left, ct, G, V2, RG1, ST1, HB1, LW1, hsz1⟩ := hrel
    clear RG ST0 HB0 LW0 hsz
    have LE1 : Hid (wr.rangeLeft m r = ct) := Lib.hid RG1.out.left_eq
    go_wp2_with (at_next; refine wpList_next_ranges (w := wr) rfl (.tmp 23) rfl 64 keyedI RVi (id : Value → Value) (id : Value → Value) (fun key kl _ => ⟨key, rfl⟩) (fun v y _ => ⟨v, rfl⟩) m r n D left ct rfl RG1.out ?_ ?_)
    · intro hc0 hl0
      have ME := Lib.hid (ST1.out.done hl0 HSP.out.mem HB1.out ⟨by rw [HMM.out.2, HMM.out.1]; exact Nat.le_succ _, by rw [HMM.out.1]; exact Nat.le_refl _⟩)
      clear hl0 hc0 RG1 ST1
      go_wp2_with fail
      go_ret
      exact ⟨b2, m2, _, _, rfl, ⟨ME.out, HSP.out.good⟩, LW1.out⟩
    · intro x c kl y ps w1 cnt1 hkey hlk hv hat hrg hlt hgr hs1 hen
      obtain ⟨k, hk3, rfl, rfl, hFk⟩ := next_key HAT.out HIN.out hkey hv hat
      have hval := HSP.out.mem.val k hk3
      rw [hFk] at hval
      simp only [Option.getD_some] at hval
      obtain ⟨A, cc, hVs, _, _, _, _⟩ := (HSP.out.mem.own k hk3).shape
      rw [hVs] at hval
      subst hval
      obtain ⟨ln, hln⟩ : ∃ ln, ln = (s.S k).length := ⟨_, rfl⟩
      obtain ⟨cn, hcn⟩ : ∃ cn, cn = cnt (s.S k) := ⟨_, rfl⟩
      rw [← hln, ← hcn] at hen
      rw [← hln, ← hcn]
      have G1 : Below r wr w1 := ⟨hgr.os, hgr.tape, hgr.output, hgr.size, fun i hi => hgr.block i (by omega) (fun e => by injection e with e; omega)⟩
      have hm2r : m2 ≠ r := by rw [HR.out, HS0.out, HMM.out.1]; omega
      have hb2r : b2 ≠ r := by rw [HR.out, HS0.out, HMM.out.2, HMM.out.1]; omega
      have hmm2 : m ≠ m2 := by have := HML.out; rw [HMM.out.1]; omega
      have ST2 := ST1.out.grown hgr hm2r (fun q hq e => by
        cases hd : dn F left q with
        | true =>
          obtain ⟨cur, h1⟩ := (ST1.out.own q hq hd).blk_of e
          obtain ⟨es, clock, since, seen, c0, _, _, _, _, e5, _⟩ := RG1.out
          unfold Blk at h1
          rw [h1] at e5
          cases e5
        | false => rw [ST1.out.nil q hq hd] at e; cases e)
      have HB3 := HB1.out.grown hgr (fun e => by injection e with e; exact hb2r e)
      have LW2 : Below w.heap.size w w1 := LW1.out.trans (G1.mono (by rw [HR.out, HS0.out]; omega))
      have hsz2 : r + 1 ≤ w1.heap.size := by omega
      obtain ⟨W, hW⟩ : ∃ W, W = w1.alloc (.cells #[.slice A ln cc, .int .i64 (cn : Int)] 60) := ⟨_, rfl⟩
      obtain ⟨bx, hbx⟩ : ∃ bx, bx = w1.heap.size := ⟨_, rfl⟩
      have BW : Below w1.heap.size w1 W := by rw [hW]; exact (Below.refl _ _).alloc (Nat.le_refl _) _
      have ST3 := Lib.hid (ST2.keep BW)
      have HB4 := HB3.below BW HB3.lt
      have HX : Blk W bx 60 #[.slice A ln cc, .int .i64 (cn : Int)] := by rw [hW, hbx]; exact Blk.new _ _ _
      have RG3 := Lib.hid (ranges_newI hrg BW)
      have LW3 := Lib.hid (LW2.trans (BW.mono LW2.size))
      have hsz3 : r + 1 ≤ W.heap.size := Nat.le_trans hsz2 BW.size
      have SP3 : Spc W base b m n F V s := ⟨HSW.out.mem.below LW3.out (Nat.le_refl _), HSW.out.good⟩
      have HCP := copy_rg W.drew base (V k) (s.S k) (cnt (s.S k)) (SP3.mem.own k hk3).drew (Nat.le_trans hbs (by rw [HR.out, HS0.out] at hsz3; show w.heap.size ≤ W.heap.size; omega)) (SP3.len hk3)
      rw [hVs, ← hln, ← hcn] at HCP
      have CP := Lib.hid HCP
      have HS3 := Lib.hid (⟨HB4.drew, HX.drew⟩ : Blk W.drew b2 63 #[.int .i64 (s.cells : Int), .int .i64 (s.kept : Int), .map (some m2)] ∧ Blk W.drew bx 60 #[.slice A ln cc, .int .i64 (cn : Int)])
      have KK := Lib.hid (⟨hk3, hFk, hlk, hln, hcn, hVs⟩ : _ ∧ _ ∧ _ ∧ _ ∧ _ ∧ _)
      have NE := Lib.hid (⟨hm2r, hb2r, hmm2⟩ : _ ∧ _ ∧ _)
      have LT := Lib.hid hlt
      clear hkey hv hat hrg hlt hgr hs1 hFk hlk hln hcn hVs G1 ST2 HB3 LW2 BW HB4 HX SP3 HCP hm2r hb2r hmm2 RG1 ST1 HB1 LW1 hsz1 hsz2
      go_upto_region 7 with (fail)
      rw [← hbx, ← hW]
      clear hW hbx hen
      refine region_anyZ (fun w' => Blk w' b2 63 #[.int .i64 (s.cells : Int), .int .i64 (s.kept : Int), .map (some m2)] ∧ Blk w' bx 60 #[.slice A ln cc, .int .i64 (cn : Int)]) 7 (by kernel_rfl) ?_
      refine takeG 0 (.move (.tmp 3)) (some 29) none (.pointer (some ⟨b2, 0, none⟩)) (by kernel_rfl) (by kernel_rfl) (by kernel_rfl) (fun _ _ _ h => h) (fun o wq e hS => exec_move wq e (by kernel_rfl)) HS3.out ?_
      refine takeG 1 (.nilCheck (.tmp 29)) (some 30) none (.pointer (some ⟨b2, 0, none⟩)) (by kernel_rfl) (by kernel_rfl) (by kernel_rfl) (fun _ _ _ h => h) (fun o wq e hS => exec_nil wq e (by kernel_rfl)) HS3.out ?_
      refine takeG 2 (.fieldAddr 63 (.tmp 30) 2) (some 31) none (.pointer (some ⟨b2, 2, none⟩)) (by kernel_rfl) (by kernel_rfl) (by kernel_rfl) (fun _ _ _ h => h) (fun o wq e hS => exec_field (u := .pointer (some ⟨b2, 0, none⟩)) wq e (by kernel_rfl) (by kernel_rfl)) HS3.out ?_
      refine takeG 3 (.load 61 (.tmp 31)) (some 32) none (.map (some m2)) (by kernel_rfl) (by kernel_rfl) (by kernel_rfl) (fun _ _ _ h => h) (fun o wq e hS => exec_load (x := (.tmp 31)) e (by kernel_rfl) (load_one Try.underlying61 (by kernel_rfl) (hS.1.cell 2))) HS3.out ?_
      refine takeG 4 (.move (.tmp 4)) (some 33) none (.int .i64 (k : Int)) (by kernel_rfl) (by kernel_rfl) (by kernel_rfl) (fun _ _ _ h => h) (fun o wq e hS => exec_move wq e (by kernel_rfl)) HS3.out ?_
      refine takeG 5 (.load 60 (.tmp 5)) (some 34) none (.agg #[.slice A ln cc, .int .i64 (cn : Int)]) (by kernel_rfl) (by kernel_rfl) (by kernel_rfl) (fun _ _ _ h => h) (fun o wq e hS => exec_load (x := (.tmp 5)) e (by kernel_rfl) (load_partC hS.2)) HS3.out ?_
      refine loneG 6 (.call ⟨.value (.func 29), #[(.tmp 34)], #[60]⟩) (some 35) none (by kernel_rfl) (by kernel_rfl) (by kernel_rfl) ?_
      intro o ho hod
      refine wp_callC (f := 29) (args := #[.agg #[.slice A ln cc, .int .i64 (cn : Int)]]) (by cases o; cases ho; kernel_rfl) CP.out ?_
      rintro ee W7 ⟨v2, rfl, ho7, hb7⟩
      refine ⟨.agg #[v2, .int .i64 (cn : Int)], rfl, ?_⟩
      rw [hod]
      clear hod ho
      have HP7 := Lib.hid (⟨ho7, hb7⟩ : _ ∧ _)
      have HS7 : Hid (Blk W7 b2 63 #[.int .i64 (s.cells : Int), .int .i64 (s.kept : Int), .map (some m2)] ∧ Blk W7 bx 60 #[.slice A ln cc, .int .i64 (cn : Int)]) := Lib.hid ⟨Blk_new HS3.out.1 hb7, Blk_new HS3.out.2 hb7⟩
      clear ho7 hb7 HS3 CP
      refine ⟨fun _ => HS7.out, ?_⟩
      refine lastOp 7 (.mapUpdate 61 (.tmp 32) (.tmp 33) (.tmp 35)) none (by kernel_rfl) (by kernel_rfl) (by kernel_rfl) rfl ?_
      intro o ho hod
      have M7 := (ST3.out.keep (Below.drew (Below.refl _ _))).keep HP7.out.2
      obtain ⟨W8, hrun, m8, g8, s8⟩ := M7.map.put Try.underlying61 (Nat.lt_of_le_of_lt (dcnt_le F left) (by decide)) KK.out.1 (.agg #[v2, .int .i64 (cn : Int)])
      refine wp_put ho (by kernel_rfl) (by kernel_rfl) (by kernel_rfl) hrun ?_
      rw [hod]
      clear hod ho
      simp only [put_some, put_none, List.setIfInBounds_toArray, List.set_cons_succ, List.set_cons_zero]
      have ST8 := Lib.hid ((ST3.out.keep (Below.drew (Below.refl _ _))).step KK.out.1 (by rw [KK.out.2.1]; rfl) KK.out.2.2.1 LW3.out.size HP7.out.2 HP7.out.1 (by rw [← KK.out.2.2.2.2.1]; exact m8) g8)
      have hm2 := HMM.out.2
      have hm1 := HMM.out.1
      have RG8 := Lib.hid ((ranges_newI (ranges_drewI RG3.out) HP7.out.2).kept g8 (fun e => by injection e with e; exact NE.out.2.2 e) (fun e => by injection e with e; exact NE.out.1 e.symm))
      have HB8 := Lib.hid (Blk_grown HS7.out.1 g8 (fun e => by injection e with e; omega))
      have L7 := LW3.out.drew.trans (HP7.out.2.mono LW3.out.drew.size)
      have LW8 : Hid (Below w.heap.size w W8) := Lib.hid ⟨g8.os.trans L7.os, g8.tape.trans L7.tape, g8.output.trans L7.output, Nat.le_trans L7.size g8.size, fun i hi => (g8.block i (Nat.lt_of_lt_of_le hi L7.size) (fun e => by injection e with e; omega)).trans (L7.block i hi)⟩
      have hsz8 : r + 1 ≤ W8.heap.size := Nat.le_trans hsz3 (Nat.le_trans HP7.out.2.size g8.size)
      have LE8 := Lib.hid RG8.out.left_eq
      clear m8 g8 s8 hrun M7 hm2 hm1 L7
      go_wp2_with fail
      refine ⟨⟨_, _, _, _, RG8, ST8, HB8, LW8, hsz8⟩, ?_⟩
      rw [LE8.out, LE1.out]
      exact LT.out
end Sp
end Go.Proofs.Ytpbojhjbjnoihaa
