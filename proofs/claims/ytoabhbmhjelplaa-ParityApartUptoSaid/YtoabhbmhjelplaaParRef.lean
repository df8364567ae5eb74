/-
  The document's own answers for parities: 'power', 'Parity', 'even' and 'right' without a bad column, 'DocMake', each by a contract. Conditions: what is handed in reads as rows of bytes.
-/
import Derived.Test.YtoabhbmhjelplaaFieldRefA
import Derived.Test.YtoabhbmhjelplaaParCheck
import Derived.Test.YtoabhbmhjelplaaParAidM
import Derived.Test.YtoabhbmhjelplaaDrawOpsM
namespace Go.Proofs.Ytoabhbmhjelplaa
open Go Go.RowKit
set_option maxRecDepth 100000
set_option linter.unusedVariables false

set_option maxHeartbeats 400000 in
theorem power_any (j i : Nat) (w : World) (hj : j < 3) (hi : i < 64) :
    Calls Try.prog 16 #[.int .i64 (j : Int), .int .i64 (i : Int)] w fun e w' => e = .returned (.int .u8 ((M.pw (i * j) : Nat) : Int)) ∧ w = w' := by
  have hm : i * j ≤ 64 * 3 := Nat.mul_le_mul (by omega) (by omega)
  have e1 : IntKind.i64.wrap ((j : Int) * (i : Int)) = ((i * j : Nat) : Int) := by rw [← Int.natCast_mul, Nat.mul_comm, IntKind.wrap_i64]; omega
  have HP : Hid (powR 2 ((i * j : Nat) : Int) = M.pw (i * j)) := by
    show _ = _
    unfold powR
    rw [if_neg (by omega), Int.toNat_natCast, M.gpow_two]
  generalize i * j = m at *
  have hneg : ¬ ((m : Int) < 0) := by omega
  go_enter Try.func16, Try.ntmps16
  go_wp2_with fail
  refine (refpow_any 2 (m : Int) (by omega) (by omega) _).mono ?_
  rintro e w1 ⟨rfl, rfl⟩
  rw [HP.out, if_neg (by omega)]
  go_wp2_with fail
  go_ret
  exact ⟨rfl, rfl⟩

/-- byte u behind i columns, and v bytes of the next one -/
def accX (j : Nat) (x : Nat → Nat → Nat) (i v u : Nat) : Nat := if u < v then M.par (i + 1) j x u else M.par i j x u
theorem accX_lt (j : Nat) (x : Nat → Nat → Nat) (i v u : Nat) : accX j x i v u < 256 := by
  unfold accX
  split <;> exact M.par_lt _ _ _ _

set_option maxHeartbeats 1600000 in
theorem refpar_any (n k cd B j : Nat) (A : Option Addr) (ra : Nat → Option Addr) (rl rc : Nat → Nat) (x : Nat → Nat → Nat) (w : World) (hr : RdR w B A k ra rl rc x) (hl : ∀ i, i < k → rl i = n) (hk0 : 0 < k) (hk : k ≤ 60) (hn1 : 1 ≤ n) (hn : n ≤ 4096) (hj3 : j < 3) (hB : B ≤ w.heap.size) :
    Calls Try.prog 18 #[.slice A k cd, .int .i64 (j : Int)] w fun e w' => e = .returned (.slice (some ⟨w.heap.size, 0, none⟩) n n) ∧ RowG w' w.heap.size n (M.par k j x) ∧ Below w.heap.size w w' := by
  have HL := Lib.hid hl
  have HR := Lib.hid hr
  obtain ⟨b0, o0, rfl, hb0, hc0, _⟩ := hr 0 hk0
  rw [hl 0 hk0, Nat.add_zero] at hc0
  have hmb := fun W => make_bytes n (by omega) W (n : Int) rfl
  have G0 : Hid (RowG (w.alloc (.cells (rowArr n fun _ => 0) 5)) w.heap.size n (M.par 0 j x)) := Lib.hid (RowG.of_blk (Blk.new w 5 (rowArr n fun _ => 0)) (Nat.le_refl _))
  have L0 : Hid (Below w.heap.size w (w.alloc (.cells (rowArr n fun _ => 0) 5))) := Lib.hid ((Below.refl _ _).alloc (Nat.le_refl _) _)
  clear hr hl hb0
  go_enter Try.func18, Try.ntmps18
  go_wp2_with fail
  clear hmb hc0
  generalize hwz : w.heap.size = z at *
  have HWZ := Lib.hid hwz
  clear hwz
  go_loopw [6] (fun t wr => ∃ i : Nat, t = .int .i64 i ∧ i ≤ k ∧ Hid (RowG wr z n (M.par i j x)) ∧ Hid (Below z w wr)) (fun t _ => k - (intOf t).toNat)
  case atStart => exact ⟨0, rfl, by omega, G0, L0⟩
  case round =>
    clear G0 L0
    obtain ⟨wo, rfl⟩ : ∃ wo : World, wo = wr := ⟨_, rfl⟩
    obtain ⟨i, rfl, hi, G1, L1⟩ := hrel
    by_cases hlt : i < k
    · have G2 : Hid (RowG wo z n (accX j x i 0)) := G1.out.congr fun u _ => by unfold accX; rw [if_neg (by omega)]
      have L2 := L1
      clear G1 L1
      go_wp2_with fail
      go_loopw [7] (fun t wr => ∃ v : Nat, t = .int .i64 v ∧ v ≤ n ∧ Hid (RowG wr z n (accX j x i v)) ∧ Hid (Below z w wr)) (fun t _ => n - (intOf t).toNat)
      case atStart => exact ⟨0, rfl, by omega, G2, L2⟩
      case round =>
        clear G2 L2
        obtain ⟨v, rfl, hvn, G3, L3⟩ := hrel
        by_cases hv : v < n
        · obtain ⟨hb, hc, hx⟩ := (HR.out.below L3.out hB).head hlt
          rw [HL.out i hlt] at hc hx
          obtain ⟨bx, ox, hxe, _⟩ := hx v hv
          rw [hxe] at hc hx
          obtain ⟨_, hcx, hxl⟩ := hx.at_ hv
          have HXL := Lib.hid hxl
          have HAL := Lib.hid (accX_lt j x i v v)
          obtain ⟨ci, hci⟩ : ∃ ci, ci = rc i := ⟨_, rfl⟩
          rw [← hci] at hc
          have HSc : Hid (wr.cell? ⟨z, v, none⟩ = some (.int .u8 ((accX j x i v v : Nat) : Int)) ∧ wr.cell? ⟨b0, o0 + i, none⟩ = some (.slice (some ⟨bx, ox, none⟩) n ci) ∧ wr.cell? ⟨bx, ox + v, none⟩ = some (.int .u8 ((x i v : Nat) : Int))) := ⟨G3.out.cell hv, hc, hcx⟩
          have HFc := Lib.hid (G3.out.frozen hv)
          clear hci hc hcx hx hxe hxl hb
          go_wp2_with fail
          have HS : Hid (wr.drew.cell? ⟨z, v, none⟩ = some (.int .u8 ((accX j x i v v : Nat) : Int)) ∧ wr.drew.cell? ⟨b0, o0 + i, none⟩ = some (.slice (some ⟨bx, ox, none⟩) n ci) ∧ wr.drew.cell? ⟨bx, ox + v, none⟩ = some (.int .u8 ((x i v : Nat) : Int))) := HSc.out
          have HF : Hid (wr.drew.frozen? ⟨z, v, none⟩ = false) := HFc.out
          refine region_anyZ (fun W : World => W.cell? ⟨z, v, none⟩ = some (.int .u8 ((accX j x i v v : Nat) : Int)) ∧ W.cell? ⟨b0, o0 + i, none⟩ = some (.slice (some ⟨bx, ox, none⟩) n ci) ∧ W.cell? ⟨bx, ox + v, none⟩ = some (.int .u8 ((x i v : Nat) : Int))) 19 (by kernel_rfl) ?_
          refine takeG 0 (.move (.tmp 5)) (some 25) none (.slice (some ⟨z, 0, none⟩) n n) (by kernel_rfl) (by kernel_rfl) (by kernel_rfl) (fun _ _ _ h => h) (fun o w e hS => exec_move w e (by kernel_rfl)) HS.out ?_
          refine takeG 1 (.move (.tmp 7)) (some 26) none (.int .i64 (v : Int)) (by kernel_rfl) (by kernel_rfl) (by kernel_rfl) (fun _ _ _ h => h) (fun o w e hS => exec_move w e (by kernel_rfl)) HS.out ?_
          refine takeG 2 (.move (.tmp 5)) (some 27) none (.slice (some ⟨z, 0, none⟩) n n) (by kernel_rfl) (by kernel_rfl) (by kernel_rfl) (fun _ _ _ h => h) (fun o w e hS => exec_move w e (by kernel_rfl)) HS.out ?_
          refine takeG 3 (.move (.tmp 7)) (some 28) none (.int .i64 (v : Int)) (by kernel_rfl) (by kernel_rfl) (by kernel_rfl) (fun _ _ _ h => h) (fun o w e hS => exec_move w e (by kernel_rfl)) HS.out ?_
          refine takeG 4 (.indexAddr 31 (.tmp 27) (.tmp 28)) (some 29) none (.pointer (some ⟨z, v, none⟩)) (by kernel_rfl) (by kernel_rfl) (by kernel_rfl) (fun _ _ _ h => h) (fun o w e hS => exec_index (u1 := .slice (some ⟨z, 0, none⟩) n n) (u2 := .int .i64 (v : Int)) w e (by kernel_rfl) (by kernel_rfl) (index_zero z n n v hv _)) HS.out ?_
          refine takeG 5 (.load 5 (.tmp 29)) (some 30) none (.int .u8 ((accX j x i v v : Nat) : Int)) (by kernel_rfl) (by kernel_rfl) (by kernel_rfl) (fun _ _ _ h => h) (fun o w e hS => exec_load (x := (.tmp 29)) e (by kernel_rfl) (load_one Try.underlying5 (by kernel_rfl) hS.1)) HS.out ?_
          refine takeG 6 (.move (.tmp 1)) (some 31) none (.int .i64 (j : Int)) (by kernel_rfl) (by kernel_rfl) (by kernel_rfl) (fun _ _ _ h => h) (fun o w e hS => exec_move w e (by kernel_rfl)) HS.out ?_
          refine takeG 7 (.move (.tmp 6)) (some 32) none (.int .i64 (i : Int)) (by kernel_rfl) (by kernel_rfl) (by kernel_rfl) (fun _ _ _ h => h) (fun o w e hS => exec_move w e (by kernel_rfl)) HS.out ?_
          refine takeG 9 (.move (.tmp 0)) (some 34) none (.slice (some ⟨b0, o0, none⟩) k cd) (by kernel_rfl) (by kernel_rfl) (by kernel_rfl) (fun _ _ _ h => h) (fun o w e hS => exec_move w e (by kernel_rfl)) HS.out ?_
          refine takeG 10 (.move (.tmp 6)) (some 35) none (.int .i64 (i : Int)) (by kernel_rfl) (by kernel_rfl) (by kernel_rfl) (fun _ _ _ h => h) (fun o w e hS => exec_move w e (by kernel_rfl)) HS.out ?_
          refine takeG 11 (.indexAddr 22 (.tmp 34) (.tmp 35)) (some 36) none (.pointer (some ⟨b0, o0 + i, none⟩)) (by kernel_rfl) (by kernel_rfl) (by kernel_rfl) (fun _ _ _ h => h) (fun o w e hS => exec_index (u1 := .slice (some ⟨b0, o0, none⟩) k cd) (u2 := .int .i64 (i : Int)) w e (by kernel_rfl) (by kernel_rfl) (index_rows b0 o0 k cd i hlt _)) HS.out ?_
          refine takeG 12 (.load 31 (.tmp 36)) (some 37) none (.slice (some ⟨bx, ox, none⟩) n ci) (by kernel_rfl) (by kernel_rfl) (by kernel_rfl) (fun _ _ _ h => h) (fun o w e hS => exec_load (x := (.tmp 36)) e (by kernel_rfl) (load_one Try.underlying31 (by kernel_rfl) hS.2.1)) HS.out ?_
          refine takeG 13 (.move (.tmp 7)) (some 38) none (.int .i64 (v : Int)) (by kernel_rfl) (by kernel_rfl) (by kernel_rfl) (fun _ _ _ h => h) (fun o w e hS => exec_move w e (by kernel_rfl)) HS.out ?_
          refine takeG 14 (.indexAddr 31 (.tmp 37) (.tmp 38)) (some 39) none (.pointer (some ⟨bx, ox + v, none⟩)) (by kernel_rfl) (by kernel_rfl) (by kernel_rfl) (fun _ _ _ h => h) (fun o w e hS => exec_index (u1 := .slice (some ⟨bx, ox, none⟩) n ci) (u2 := .int .i64 (v : Int)) w e (by kernel_rfl) (by kernel_rfl) (index_bytes bx ox n ci v hv _)) HS.out ?_
          refine takeG 15 (.load 5 (.tmp 39)) (some 40) none (.int .u8 ((x i v : Nat) : Int)) (by kernel_rfl) (by kernel_rfl) (by kernel_rfl) (fun _ _ _ h => h) (fun o w e hS => exec_load (x := (.tmp 39)) e (by kernel_rfl) (load_one Try.underlying5 (by kernel_rfl) hS.2.2)) HS.out ?_
          refine loneG 8 (.call ⟨.value (.func 16), #[(.tmp 31), (.tmp 32)], #[3, 3]⟩) (some 33) none (by kernel_rfl) (by kernel_rfl) (by kernel_rfl) ?_
          intro o ho hod
          refine wp_callC (f := 16) (args := #[.int .i64 (j : Int), .int .i64 (i : Int)]) (by cases o; cases ho; kernel_rfl) (power_any j i _ hj3 (by omega)) ?_
          rintro e w2 ⟨rfl, rfl⟩
          refine ⟨.int .u8 ((M.pw (i * j) : Nat) : Int), rfl, ?_⟩
          rw [hod]
          clear hod ho
          refine ⟨fun _ => HS.out, ?_⟩
          refine loneG 16 (.call ⟨.value (.func 15), #[(.tmp 33), (.tmp 40)], #[5, 5]⟩) (some 41) none (by kernel_rfl) (by kernel_rfl) (by kernel_rfl) ?_
          intro o ho hod
          refine wp_callC (f := 15) (args := #[.int .u8 ((M.pw (i * j) : Nat) : Int), .int .u8 ((x i v : Nat) : Int)]) (by cases o; cases ho; kernel_rfl) (refmul_any _ _ (M.pw_any_lt _) HXL.out _) ?_
          rintro e w2 ⟨rfl, rfl⟩
          refine ⟨.int .u8 ((M.gmul (M.pw (i * j)) (x i v) : Nat) : Int), rfl, ?_⟩
          rw [hod]
          clear hod ho
          refine ⟨fun _ => HS.out, ?_⟩
          refine takeG 17 (.binOp .xor 5 (.tmp 30) (.tmp 41) 5) (some 42) none (.int .u8 ((accX j x i v v ^^^ M.gmul (M.pw (i * j)) (x i v) : Nat) : Int)) (by kernel_rfl) (by kernel_rfl) (by kernel_rfl) (fun _ _ _ h => h) (fun o w e hS => exec_bin (u1 := .int .u8 ((accX j x i v v : Nat) : Int)) (u2 := .int .u8 ((M.gmul (M.pw (i * j)) (x i v) : Nat) : Int)) w e (by kernel_rfl) (by kernel_rfl) (eqG_int ..) (u8_xor_run _ _ HAL.out (M.gmul_lt _ _) _)) HS.out ?_
          refine takeG 18 (.indexAddr 31 (.tmp 25) (.tmp 26)) (some 43) none (.pointer (some ⟨z, v, none⟩)) (by kernel_rfl) (by kernel_rfl) (by kernel_rfl) (fun _ _ _ h => h) (fun o w e hS => exec_index (u1 := .slice (some ⟨z, 0, none⟩) n n) (u2 := .int .i64 (v : Int)) w e (by kernel_rfl) (by kernel_rfl) (index_zero z n n v hv _)) HS.out ?_
          refine lastStore 19 5 (.tmp 43) (.tmp 42) (.pointer (some ⟨z, v, none⟩)) (.int .u8 ((accX j x i v v ^^^ M.gmul (M.pw (i * j)) (x i v) : Nat) : Int)) _ (by kernel_rfl) (by kernel_rfl) (by kernel_rfl) rfl (by kernel_rfl) (by kernel_rfl) (store_one size_u8 rfl rfl (by rw [HS.out.1]; rfl) HF.out (by rw [add_plain]; rfl)) ?_
          have G4 : Hid (RowG (wr.drew.setCell ⟨z, v, none⟩ (.int .u8 ((accX j x i v v ^^^ M.gmul (M.pw (i * j)) (x i v) : Nat) : Int))) z n (accX j x i (v + 1))) := ((show RowG wr.drew z n (accX j x i v) from G3.out).set hv).congr fun u _ => by
            unfold upd
            by_cases e : u = v
            · subst e; rw [if_pos rfl]; unfold accX; rw [if_neg (by omega), if_pos (by omega), M.par_succ]
            · rw [if_neg e]; unfold accX
              by_cases e2 : u < v
              · rw [if_pos e2, if_pos (by omega)]
              · rw [if_neg e2, if_neg (by omega)]
          have L4 : Hid (Below z w (wr.drew.setCell ⟨z, v, none⟩ (.int .u8 ((accX j x i v v ^^^ M.gmul (M.pw (i * j)) (x i v) : Nat) : Int)))) := (below_drew L3.out).setCell (p := ⟨z, v, none⟩) (Nat.le_refl _) _
          clear G3 L3 HS HSc HF HFc HXL HAL
          simp only [put_some, put_none, List.setIfInBounds_toArray, List.set_cons_succ, List.set_cons_zero]
          go_wp2_with fail
          go_roundw
          case rel => exact ⟨v + 1, by go_num, by omega, G4, L4⟩
          case measure => simp [intOf]; omega
        · obtain rfl : n = v := by omega
          have G4 : Hid (RowG wr z n (M.par (i + 1) j x)) := G3.out.congr fun u hu => by unfold accX; rw [if_pos hu]
          clear G3
          go_wp2_with fail
          go_roundw
          case rel => exact ⟨i + 1, by go_num, by omega, G4, L3⟩
          case measure => simp [intOf]; omega
    · obtain rfl : k = i := by omega
      go_wp2_with fail
      go_ret
      exact ⟨by rw [HWZ.out]; rfl, by rw [HWZ.out]; exact G1.out, by rw [HWZ.out]; exact L1.out⟩

theorem has_nil (i : Int) (w : World) : Calls Try.prog 14 #[.slice none 0 0, .int .i64 i] w fun e w' => e = .returned (.bool false) ∧ w = w' := by
  go_enter Try.func14, Try.ntmps14
  go_wp2
  go_loop [5] (fun x => x = .int .i64 0) (fun _ => 0)
  case atStart => rfl
  case round =>
    obtain rfl := hrel
    go_wp2
    go_ret
    exact ⟨rfl, rfl⟩

set_option maxHeartbeats 800000 in
theorem even_yes (k cd B : Nat) (A : Option Addr) (ra : Nat → Option Addr) (rl rc : Nat → Nat) (x : Nat → Nat → Nat) (w : World) (hr : RdR w B A k ra rl rc x) (hk0 : 0 < k) (hk : k ≤ 16) (ha : Alike k rl) :
    Calls Try.prog 13 #[.slice A k cd, .slice none 0 0] w fun e w' => e = .returned (.int .i64 (rl 0 : Nat)) ∧ w = w' := by
  obtain ⟨h1, h2, h3⟩ := ha
  have HA := Lib.hid h3
  have HR := Lib.hid hr
  have t1 : ((rl 0 : Int) < 1) = False := by simp; omega
  have t2 : ((4096 : Int) < (rl 0 : Int)) = False := by simp; omega
  clear h3 hr
  go_enter Try.func13, Try.ntmps13
  go_wp2_with fail
  go_loop [5, 6] (fun y t => ∃ i : Nat, i ≤ k ∧ t = .int .i64 i ∧ y = .int .i64 (if i = 0 then -1 else (rl 0 : Int))) (fun _ t => k - (intOf t).toNat)
  case atStart => exact ⟨0, by omega, rfl, rfl⟩
  case round =>
    obtain ⟨i, hi, rfl, rfl⟩ := hrel
    generalize hn : rl 0 = n at *
    have HN := Lib.hid hn
    clear hn
    by_cases hlt : i < k
    · obtain ⟨bx, ox, rfl, hbx, hcx, _⟩ := HR.out i hlt
      rw [HA.out i hlt] at hcx
      clear hbx
      by_cases hi0 : i = 0
      · subst hi0
        rw [if_pos rfl]
        rw [Nat.add_zero] at hcx
        generalize ra 0 = r1 at *
        generalize rc 0 = c1 at *
        go_wp2_with fail
        refine (has_nil _ _).mono ?_
        rintro e w1 ⟨rfl, rfl⟩
        go_wp2_with fail
        go_round
        case rel => exact ⟨1, by omega, by go_num, rfl⟩
        case measure => simp [intOf]; omega
      · rw [if_neg hi0]
        generalize ra i = r1 at *
        generalize rc i = c1 at *
        have h0n : (0 : Int) ≤ (n : Int) := by omega
        go_wp2_with fail
        refine (has_nil _ _).mono ?_
        rintro e w1 ⟨rfl, rfl⟩
        go_wp2_with fail
        go_round
        case rel => exact ⟨i + 1, by omega, by go_num, by rw [if_neg (by omega)]⟩
        case measure => simp [intOf]; omega
    · obtain rfl : i = k := by omega
      rw [if_neg (by omega)]
      go_wp2_with fail
      go_ret
      exact ⟨by rw [HN.out]; rfl, rfl⟩
end Go.Proofs.Ytoabhbmhjelplaa
