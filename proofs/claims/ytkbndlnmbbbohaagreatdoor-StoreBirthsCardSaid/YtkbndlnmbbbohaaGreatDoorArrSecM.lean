/-
  A cell written; the drives of a list that are gone, and the others. Conditions: the array is one, its power is on, its cells are there.
-/
import Derived.Test.YtkbndlnmbbbohaaGreatDoorLawCalmM
import Derived.Test.YtkbndlnmbbbohaaGreatDoorParWholeM
namespace Go.Proofs.YtkbndlnmbbbohaaGreatDoor
open Go Go.RowKit refRack
set_option maxRecDepth 100000
set_option linter.unusedVariables false
namespace Arr
section
variable {B a r f : Nat} {w w' : World} {s s' : RS}
theorem wrC (h : At B w a r f s) (hcal : s.calm) {c : Nat} (hc : c < cells s f) (hg : goneC s c = false) {gb cc : Nat} {X : Nat → Nat} (hb : RowG w gb 128 X) (hX : ∀ j, j < 128 → X j < 256) (hcost : s.cost + 1 ≤ 1000000) :
    Calls Tryz.prog 102 #[.pointer (some ⟨r, 0, none⟩), .int .i64 ((c % s.nd : Nat) : Int), .int .i64 ((f + c / s.nd : Nat) : Int), .slice (some ⟨gb, 0, none⟩) 128 cc] w fun e w' => e = .returned (.int .i64 0) ∧ RackAt B w' r (s.wrote (c % s.nd) (f + c / s.nd) X) ∧ Keep B w w' := by
  obtain ⟨h1, h2⟩ := cell_in h hc
  obtain ⟨cs, fr, hh, _, hcs⟩ := hb
  exact write_goF w r s _ 0 _ _ gb 0 cc X 5 cs h.rack h1 h2 hg hh rfl (fun j hj => ⟨by rw [Nat.zero_add]; exact hcs j hj, hX j hj⟩) hcost (by rw [hcal.pow]; rfl) (by rw [hcal.pow, hcal.spent]; rfl)
theorem _root_.Go.Proofs.YtkbndlnmbbbohaaGreatDoor.RowG.keepK {B : Nat} {w w' : World} {g n : Nat} {X : Nat → Nat} (h : RowG w g n X) (hk : Keep B w w') : RowG w' g n X := by
  obtain ⟨cs, fr, hb, h1⟩ := h
  exact ⟨cs, fr, hk.kept g _ hb rfl, h1⟩
set_option maxHeartbeats 800000 in
theorem write_any (w : World) (h : At B w a r f s) (hcal : s.calm) (c : Nat) (hc : c < cells s f) (hg : goneC s c = false) (gb cc : Nat) (X : Nat → Nat) (hb : RowG w gb 128 X) (hX : ∀ j, j < 128 → X j < 256) (hcost : s.cost + 1 ≤ 1000000) :
    Calls Tryz.prog 61 #[.pointer (some ⟨a, 0, none⟩), .int .i64 (c : Int), .slice (some ⟨gb, 0, none⟩) 128 cc] w fun e w' => e = .returned (.int .i64 0) ∧ RackAt B w' r (s.wrote (c % s.nd) (f + c / s.nd) X) ∧ Keep B w w' := by
  have hle := cells_le h
  have HC : Hid (c ≤ 100000) := Lib.hid (by omega)
  have HL := Lib.hid hc
  have HO : Hid (s.calm ∧ goneC s c = false ∧ (∀ j, j < 128 → X j < 256) ∧ s.cost + 1 ≤ 1000000) := Lib.hid ⟨hcal, hg, hX, hcost⟩
  have H0 : Hid (At B w.drew a r f s) := Lib.hid (h.drewN 1)
  have HB : Hid (RowG w.drew gb 128 X) := Lib.hid (hb.drewN 1)
  have HS0 : Hid (w.drew.cell? ⟨a, 0, none⟩ = some (.pointer (some ⟨r, 0, none⟩))) := Lib.hid H0.out.c0
  clear h hle hc hcal hg hb hX hcost
  go_enter Tryz.func61, Tryz.ntmps61
  go_wp2_with fail
  refine region_anyZ (fun W => W.cell? ⟨a, 0, none⟩ = some (.pointer (some ⟨r, 0, none⟩))) 13 (by kernel_rfl) ?_
  refine takeG 0 (.move (.tmp 0)) (some 7) none (.pointer (some ⟨a, 0, none⟩)) (by kernel_rfl) (by kernel_rfl) (by kernel_rfl) (fun _ _ _ h => h) (fun o' wq e hS => exec_move wq e (by kernel_rfl)) HS0.out ?_
  refine takeG 1 (.nilCheck (.tmp 7)) (some 8) none (.pointer (some ⟨a, 0, none⟩)) (by kernel_rfl) (by kernel_rfl) (by kernel_rfl) (fun _ _ _ h => h) (fun o' wq e hS => exec_nil wq e (by kernel_rfl)) HS0.out ?_
  refine takeG 2 (.fieldAddr 71 (.tmp 8) 0) (some 9) none (.pointer (some ⟨a, 0, none⟩)) (by kernel_rfl) (by kernel_rfl) (by kernel_rfl) (fun _ _ _ h => h) (fun o' wq e hS => exec_field (u := .pointer (some ⟨a, 0, none⟩)) wq e (by kernel_rfl) (by kernel_rfl)) HS0.out ?_
  refine takeG 3 (.load 25 (.tmp 9)) (some 10) none (.pointer (some ⟨r, 0, none⟩)) (by kernel_rfl) (by kernel_rfl) (by kernel_rfl) (fun _ _ _ h => h) (fun o' wq e hS => exec_load (x := (.tmp 9)) e (by kernel_rfl) (load_one Tryz.underlying25 (by kernel_rfl) hS)) HS0.out ?_
  refine takeG 4 (.move (.tmp 0)) (some 11) none (.pointer (some ⟨a, 0, none⟩)) (by kernel_rfl) (by kernel_rfl) (by kernel_rfl) (fun _ _ _ h => h) (fun o' wq e hS => exec_move wq e (by kernel_rfl)) HS0.out ?_
  refine takeG 5 (.move (.tmp 1)) (some 12) none (.int .i64 (c : Int)) (by kernel_rfl) (by kernel_rfl) (by kernel_rfl) (fun _ _ _ h => h) (fun o' wq e hS => exec_move wq e (by kernel_rfl)) HS0.out ?_
  refine takeG 7 (.move (.tmp 0)) (some 14) none (.pointer (some ⟨a, 0, none⟩)) (by kernel_rfl) (by kernel_rfl) (by kernel_rfl) (fun _ _ _ h => h) (fun o' wq e hS => exec_move wq e (by kernel_rfl)) HS0.out ?_
  refine takeG 8 (.move (.tmp 1)) (some 15) none (.int .i64 (c : Int)) (by kernel_rfl) (by kernel_rfl) (by kernel_rfl) (fun _ _ _ h => h) (fun o' wq e hS => exec_move wq e (by kernel_rfl)) HS0.out ?_
  refine takeG 10 (.move (.tmp 2)) (some 17) none (.slice (some ⟨gb, 0, none⟩) 128 cc) (by kernel_rfl) (by kernel_rfl) (by kernel_rfl) (fun _ _ _ h => h) (fun o' wq e hS => exec_move wq e (by kernel_rfl)) HS0.out ?_
  refine loneG 6 (.call ⟨.value (.func 60), #[(.tmp 11), (.tmp 12)], #[29, 3]⟩) (some 13) none (by kernel_rfl) (by kernel_rfl) (by kernel_rfl) ?_
  intro o' ho hod
  refine wp_callC (f := 60) (args := #[.pointer (some ⟨a, 0, none⟩), .int .i64 (c : Int)]) (by cases o'; cases ho; kernel_rfl) (drive_any _ H0.out c HC.out) ?_
  rintro e wq ⟨rfl, rfl⟩
  refine ⟨_, rfl, ?_⟩
  rw [hod]
  clear hod ho
  refine ⟨fun _ => HS0.out, ?_⟩

  refine loneG 9 (.call ⟨.value (.func 103), #[(.tmp 14), (.tmp 15)], #[29, 3]⟩) (some 16) none (by kernel_rfl) (by kernel_rfl) (by kernel_rfl) ?_
  intro o' ho hod
  refine wp_callC (f := 103) (args := #[.pointer (some ⟨a, 0, none⟩), .int .i64 (c : Int)]) (by cases o'; cases ho; kernel_rfl) (sector_any _ H0.out c HC.out) ?_
  rintro e wq ⟨rfl, d2, rfl⟩
  refine ⟨_, rfl, ?_⟩
  rw [hod]
  clear hod ho
  have H2 := Lib.hid (H0.out.drewN d2)
  have HS2 : Hid ((w.drew.drewN d2).cell? ⟨a, 0, none⟩ = some (.pointer (some ⟨r, 0, none⟩))) := Lib.hid H2.out.c0
  refine ⟨fun _ => HS2.out, ?_⟩

  refine loneG 11 (.call ⟨.value (.func 102), #[(.tmp 10), (.tmp 13), (.tmp 16), (.tmp 17)], #[25, 3, 3, 41]⟩) (some 18) none (by kernel_rfl) (by kernel_rfl) (by kernel_rfl) ?_
  intro o' ho hod
  refine wp_callC (f := 102) (args := #[.pointer (some ⟨r, 0, none⟩), .int .i64 ((c % s.nd : Nat) : Int), .int .i64 ((f + c / s.nd : Nat) : Int), .slice (some ⟨gb, 0, none⟩) 128 cc]) (by cases o'; cases ho; kernel_rfl) (wrC H2.out HO.out.1 HL.out HO.out.2.1 (HB.out.drewN d2) HO.out.2.2.1 HO.out.2.2.2) ?_
  rintro e wq ⟨rfl, h3, k3⟩
  refine ⟨_, rfl, ?_⟩
  rw [hod]
  clear hod ho
  have H3 := Lib.hid (⟨h3, (((Keep.refl B w).drew).drewN d2).trans k3⟩ : _ ∧ _)
  have HS3 : Hid (wq.cell? ⟨a, 0, none⟩ = some (.pointer (some ⟨r, 0, none⟩))) := Lib.hid (k3.block H2.out.blk rfl |>.cell 0)
  clear h3 k3
  refine ⟨fun _ => HS3.out, ?_⟩

  refine lastS 12 (.assign (.tmp 18)) (some 6) (.int .i64 0) (by kernel_rfl) (by kernel_rfl) (by kernel_rfl) HS3.out (fun o' e => exec_assign _ e (by kernel_rfl)) ?_
  simp only [put_some, put_none, List.setIfInBounds_toArray, List.set_cons_succ, List.set_cons_zero]
  go_wp2_with fail
  go_ret
  exact ⟨rfl, H3.out.1, H3.out.2⟩
theorem goneDC (w : World) (h : At B w a r f s) {d : Nat} (hd : d < s.nd) :
    Calls Tryz.prog 59 #[.pointer (some ⟨r, 0, none⟩), .int .i64 (d : Int)] w fun e w' => e = .returned (.bool (s.gone d)) ∧ w' = w := by
  have h1 := gone_any w r s (d : Int) h.rack
  have e : s.isD (d : Int) = true := by simp [RS.isD]; omega
  rw [e, Int.toNat_natCast, Bool.true_and] at h1
  exact h1
def goneL (s : RS) (l : List Nat) : List Nat := l.filter fun d => s.gone d
def hereL (s : RS) (l : List Nat) : List Nat := l.filter fun d => !s.gone d
theorem take_next {l : List Nat} {k : Nat} (hk : k < l.length) : l.take (k + 1) = l.take k ++ [l[k]] := by rw [List.take_add_one, List.getElem?_eq_getElem hk]; rfl
set_option maxHeartbeats 1600000 in
theorem gone_split (w : World) (h : At B w a r f s) (sv : Value) (l : List Nat) (hI : Sq.Ints w.heap.size w sv (Sq.ints l)) (hl : ∀ d ∈ l, d < s.nd) (hlen : l.length ≤ 1000) :
    Calls Tryz.prog 57 #[.pointer (some ⟨a, 0, none⟩), sv] w fun e w' => ∃ v1 v2, e = .returned (.tuple #[v1, v2]) ∧ Nr.OwnN w' w.heap.size v1 (goneL s l) ∧ Nr.OwnN w' w.heap.size v2 (hereL s l) ∧ (∀ g, v1.ownBlock = some g → v2.ownBlock ≠ some g) ∧ Below w.heap.size w w' := by
  obtain ⟨A, c, rfl, hcell⟩ : ∃ A c, sv = .slice A l.length c ∧ ∀ k, (hk : k < l.length) → ∃ b o, A = some ⟨b, o, none⟩ ∧ b < w.heap.size ∧ w.cell? ⟨b, o + k, none⟩ = some (.int .i64 ((l[k] : Nat) : Int)) := by
    rcases hI with ⟨rfl, h0⟩ | ⟨b, o, c, rfl, hb, hc⟩
    · have hl0 : l = [] := by simpa [Sq.ints] using h0
      subst hl0
      exact ⟨none, 0, rfl, fun k hk => absurd hk (by simp)⟩
    · refine ⟨some ⟨b, o, none⟩, c, by rw [Sq.ints_length], fun k hk => ⟨b, o, rfl, hb, ?_⟩⟩
      rw [hc k (by rw [Sq.ints_length]; exact hk)]
      simp [Sq.ints, hk]
  have HA := Lib.hid h
  have HC := Lib.hid hcell
  have HL := Lib.hid hl
  clear h hcell hl hI
  go_enter Tryz.func57, Tryz.ntmps57
  go_wp2_with fail
  go_loopw [4, 5, 10] (fun y1 y2 y wr => ∃ k : Nat, k ≤ l.length ∧ y = .int .i64 (k : Int) ∧ Hid (Nr.OwnN wr w.heap.size y1 (goneL s (l.take k)) ∧ Nr.OwnN wr w.heap.size y2 (hereL s (l.take k)) ∧ (∀ g, y1.ownBlock = some g → y2.ownBlock ≠ some g) ∧ Below w.heap.size w wr)) (fun _ _ y _ => l.length - (intOf y).toNat)
  case atStart => exact ⟨0, Nat.zero_le _, rfl, Lib.hid ⟨Gr.OwnG.nil _ _, Gr.OwnG.nil _ _, fun g hg => (by cases hg), Below.refl _ _⟩⟩
  case round =>
    obtain ⟨k, hk, rfl, HR⟩ := hrel
    by_cases hlt : k < l.length
    · obtain ⟨b, o, hA, hb, hcl⟩ := HC.out k hlt
      have hcw : wr.cell? ⟨b, o + k, none⟩ = some (.int .i64 ((l[k] : Nat) : Int)) := (HR.out.2.2.2.cell (p := ⟨b, o + k, none⟩) hb).trans hcl
      have hdn := HL.out l[k] (List.getElem_mem hlt)
      have HT := Lib.hid (take_next hlt)
      have A1 := HA.out.grown_ HR.out.2.2.2
      have c0 := A1.c0
      have HG := Lib.hid (goneDC wr A1 hdn)
      have HD16 : Hid (l[k] < s.nd ∧ s.nd ≤ 16) := Lib.hid ⟨hdn, A1.bounds.1⟩
      have hl16 : l[k] < 16 := by have := HD16.out; omega
      have HLn : Hid ((goneL s (l.take k)).length ≤ 1000000 ∧ (hereL s (l.take k)).length ≤ 1000000) := Lib.hid (by
        have h1 := List.length_filter_le (fun d => s.gone d) (l.take k)
        have h2 := List.length_filter_le (fun d => !s.gone d) (l.take k)
        rw [List.length_take] at h1 h2
        unfold goneL hereL
        omega)
      generalize hd : l[k] = d at *
      have HDD := Lib.hid hd
      subst hA
      clear A1 hdn hcl hb hd
      go_wp2_with fail
      refine HG.out.mono ?_
      rintro e w2 ⟨rfl, rfl⟩
      cases hg : s.gone d with
      | true =>
        have HGD := Lib.hid hg
        clear hg HG
        go_wp2_with (at_builtin; refine wpList_app_g rfl 22 (.tmp 20) (.tmp 22) rfl rfl rfl (fun ty => appN HR.out.1 d HLn.out.1 HR.out.2.2.2.size ty) ?_; intro v5 W5 h5; refine of_hid ?_)
        refine Lib.hid ?_
        have H5 := Lib.hid h5
        clear h5
        go_wp2_with fail
        go_roundw
        case rel =>
          refine ⟨k + 1, by omega, by simp, Lib.hid ⟨?_, ?_, ?_, HR.out.2.2.2.trans H5.out.2.1⟩⟩
          · have : goneL s (l.take (k + 1)) = goneL s (l.take k) ++ [d] := by
              unfold goneL
              rw [HT.out, List.filter_append]
              simp [HGD.out]
            rw [this]
            exact H5.out.1
          · have : hereL s (l.take (k + 1)) = hereL s (l.take k) := by
              unfold hereL
              rw [HT.out, List.filter_append]
              simp [HGD.out]
            rw [this]
            exact own_keepN HR.out.2.1 fun g hg => H5.out.2.2.2.1 g (own_ltN HR.out.2.1 hg).1 (fun e => HR.out.2.2.1 g e hg)
          · intro g hg hg2
            have hlt2 := (own_ltN HR.out.2.1 hg2).1
            rcases H5.out.2.2.2.2 with e | e | e
            · exact HR.out.2.2.1 g (e.symm.trans hg) hg2
            · rw [e] at hg; injection hg with hg; omega
            · rw [e] at hg; injection hg with hg; omega
        case measure => simp [intOf]; omega
      | false =>
        have HGD := Lib.hid hg
        clear hg HG
        go_wp2_with (at_builtin; refine wpList_app_g rfl 22 (.tmp 24) (.tmp 26) rfl rfl rfl (fun ty => appN HR.out.2.1 d HLn.out.2 HR.out.2.2.2.size ty) ?_; intro v5 W5 h5; refine of_hid ?_)
        refine Lib.hid ?_
        have H5 := Lib.hid h5
        clear h5
        go_wp2_with fail
        go_roundw
        case rel =>
          refine ⟨k + 1, by omega, by simp, Lib.hid ⟨?_, ?_, ?_, HR.out.2.2.2.trans H5.out.2.1⟩⟩
          · have : goneL s (l.take (k + 1)) = goneL s (l.take k) := by
              unfold goneL
              rw [HT.out, List.filter_append]
              simp [HGD.out]
            rw [this]
            exact own_keepN HR.out.1 fun g hg => H5.out.2.2.2.1 g (own_ltN HR.out.1 hg).1 (fun e => HR.out.2.2.1 g hg e)
          · have : hereL s (l.take (k + 1)) = hereL s (l.take k) ++ [d] := by
              unfold hereL
              rw [HT.out, List.filter_append]
              simp [HGD.out]
            rw [this]
            exact H5.out.1
          · intro g hg hg2
            have hlt2 := (own_ltN HR.out.1 hg).1
            rcases H5.out.2.2.2.2 with e | e | e
            · exact HR.out.2.2.1 g hg (e.symm.trans hg2)
            · rw [e] at hg2; injection hg2 with hg2; omega
            · rw [e] at hg2; injection hg2 with hg2; omega
        case measure => simp [intOf]; omega
    · obtain rfl : k = l.length := by omega
      have HT : Hid (l.take l.length = l) := Lib.hid (List.take_length)
      go_wp2_with fail
      go_ret2
      have h := HR.out
      rw [HT.out] at h
      exact ⟨_, _, rfl, h.1, h.2.1, h.2.2.1, h.2.2.2⟩
end
end Arr
end Go.Proofs.YtkbndlnmbbbohaaGreatDoor
namespace Go.Proofs.YtkbndlnmbbbohaaGreatDoor
open Go Go.RowKit refRack
set_option maxRecDepth 100000
set_option linter.unusedVariables false
namespace Arr
set_option maxHeartbeats 3200000 in
theorem sectors_any (A : Option Addr) (n c B : Nat) (X : Nat → Nat) (w : World) (hx : RdB w B A n X) (hB : B ≤ w.heap.size) (hnc : n ≤ c) (hcm : c ≤ maxLen) (h1 : 1 ≤ n) (hn : n ≤ 1024) :
    Calls Tryz.prog 99 #[.slice A n c] w fun e w' => e = .returned (.slice (some ⟨w.heap.size, 0, none⟩) (secs n) (secs n)) ∧ WholeAt w w' 128 (secs n) (secs n) (secD n X) := by
  have hs8 := secs_le hn
  have hsp := secs_pos h1
  have hsg := secs_ge n
  have hsl := secs_last h1
  have HP := Lib.hid (parts_any w n 128 (by omega) (by omega) (by omega))
  have e0 : (n + 128 - 1) / 128 = secs n := by unfold secs; omega
  rw [e0] at HP
  generalize hk : secs n = k at *
  have HK := Lib.hid hk
  have HX := Lib.hid hx
  have HBB := Lib.hid hB
  unfold maxLen at hcm
  clear hk e0 hx hB
  go_enter Tryz.func99, Tryz.ntmps99
  go_wp2_with fail
  refine HP.out.mono ?_
  rintro e w1 ⟨rfl, rfl⟩
  have hmk : ∀ W : World, (Instr.makeSlice 139 (.int .i64 (k : Int)) (.int .i64 (k : Int))).run Tryz.prog W = .ok (.slice (some ⟨W.heap.size, 0, none⟩) k k) (W.alloc (.cells (hdP k 128 0 (fun j => w1.heap.size + 1 + j)) 41)) := fun W => make_rows k 128 (fun j => w1.heap.size + 1 + j) (by omega) W
  have hmb := fun W => make_bytes 128 (by omega) W 128 rfl
  have J0 : Hid (WholeAt w1 (w1.alloc (.cells (hdP k 128 0 (fun j => w1.heap.size + 1 + j)) 41)) 128 k 0 (secD n X)) :=
    Lib.hid ⟨Blk.new _ _ _, fun j hj => absurd hj (by omega), by simp, (Below.refl _ _).alloc (Nat.le_refl _) _⟩
  go_wp2_with fail
  clear hmk
  generalize hwz : w1.heap.size = z at *
  have HWZ := Lib.hid hwz
  clear hwz
  go_loopw [11] (fun x' wr => ∃ i : Nat, i ≤ k ∧ x' = .int .i64 i ∧ Hid (WholeAt w1 wr 128 k i (secD n X))) (fun x' _ => k - (intOf x').toNat)
  case atStart => exact ⟨0, by omega, rfl, J0⟩
  case round =>
    clear J0
    obtain ⟨i, hi, rfl, H⟩ := hrel
    by_cases hlt : i < k
    · have hsz := H.out.size
      rw [HWZ.out] at hsz
      have hh := H.out.head
      rw [HWZ.out] at hh
      have HBE := Lib.hid (H.out.below)
      have hzl := hh.lt
      have c1 : ∀ o, (wr.alloc o).cell? ⟨z, i, none⟩ = some (.slice none 0 0) := fun o => by
        rw [(hh.alloc o).cell, hdP_get hlt, if_neg (by omega)]
      have f1 : ∀ o, (wr.alloc o).frozen? ⟨z, i, none⟩ = false := fun o => (hh.alloc o).frozen i
      obtain ⟨W, hW⟩ : ∃ W, W = (wr.alloc (.cells (rowArr 128 fun _ => 0) 5)).setCell ⟨z, i, none⟩ (.slice (some ⟨z + 1 + i, 0, none⟩) 128 128) := ⟨_, rfl⟩
      have G1 : Hid (Blk W (z + 1 + i) 5 (rowArr 128 fun _ => 0)) := by
        have h := (Blk.new wr 5 (rowArr 128 fun _ => 0)).far (p := ⟨z, i, none⟩) (show wr.heap.size ≠ z by omega) (.slice (some ⟨z + 1 + i, 0, none⟩) 128 128)
        rw [hW]
        rw [hsz] at h
        exact h
      have D1 : Hid (Blk W z 41 (hdP k 128 (i + 1) (fun j => z + 1 + j))) := by
        have h := (hh.alloc (.cells (rowArr 128 fun _ => 0) 5)).set_ i (.slice (some ⟨z + 1 + i, 0, none⟩) 128 128)
        rw [hdP_set (R := fun j => z + 1 + j) hlt] at h
        rw [hW]
        exact h
      have E1 : Hid (∀ j, j < i → Blk W (z + 1 + j) 5 (rowArr 128 (secD n X j))) := by
        intro j hj
        have h := H.out.row j hj
        rw [HWZ.out] at h
        rw [hW]
        exact (h.alloc _).far (p := ⟨z, i, none⟩) (show z + 1 + j ≠ z by omega) _
      have S1 : Hid (W.heap.size = z + 1 + i + 1) := by
        show _ = _
        rw [hW]
        simp [hsz]
      have B1 : Hid (Below z wr W) := by
        rw [hW]
        exact ((Below.refl z wr).alloc (by omega) _).setCell (p := ⟨z, i, none⟩) (Nat.le_refl _) _
      have B0 : Hid (Below z w1 W) := Lib.hid ((HWZ.out ▸ HBE.out).trans B1.out)
      have d1 : W.cell? ⟨z, i, none⟩ = some (.slice (some ⟨z + 1 + i, 0, none⟩) 128 128) := by rw [D1.out.cell, hdP_get hlt, if_pos (by omega)]
      have HWW := Lib.hid hW
      have HRX : Hid (RdB W B (subA A c (i * 128)) (n - i * 128) (fun j => X (i * 128 + j))) := Lib.hid ((HX.out.below B0.out (by have := HBB.out; omega)).sub hnc)
      have hlo : i * 128 < n := by omega
      have hsl2 : ∀ W : World, (Instr.sliceAt 41 (.slice A n c) (some (.int .i64 (IntKind.i64.wrap ((i : Int) * 128)))) none none).run Tryz.prog W = .ok (.slice (subA A c (i * 128)) (n - i * 128) (c - i * 128)) W := fun W => slice_from A n c (i * 128) _ (by rw [IntKind.wrap_i64]; omega) (by omega) W
      clear hW hh
      go_upto_region 6 with (fail)
      rw [← HWW.out]
      have zl : z ≤ W.heap.size := by have := S1.out; omega
      clear c1 f1 hmb HWW hzl
      generalize subA A c (i * 128) = A2 at *
      generalize hm2 : n - i * 128 = m2 at *
      generalize c - i * 128 = c2 at *
      have HM2 := Lib.hid hm2
      clear hm2
      refine region_quiet_tail 8 (by kernel_rfl) (by kernel_rfl) ?_
      simp only [List.take_succ_cons, List.take_zero, List.drop_succ_cons, List.drop_zero]
      repeat (quiet_step (fail))
      refine wpQuiet_nil ?_
      rintro _ ⟨nq, rfl⟩
      have G2 := Lib.hid (G1.out.drewN nq)
      have HR2 : Hid (RdB (W.drewN nq) B A2 m2 (fun j => X (i * 128 + j))) := Lib.hid HRX.out
      have D2 := Lib.hid (D1.out.drewN nq)
      have E2 : Hid (∀ j, j < i → Blk (W.drewN nq) (z + 1 + j) 5 (rowArr 128 (secD n X j))) := Lib.hid fun j hj => (E1.out j hj).drewN nq
      have S2 : Hid ((W.drewN nq).heap.size = z + 1 + i + 1) := S1
      have B2 := Lib.hid (below_drewN B0.out nq)
      have HY : Hid (∀ v, v < 128 → (if v < m2 then X (i * 128 + v) else 0) = secD n X i v) := Lib.hid fun v hv => by
        have := HM2.out
        unfold secD
        by_cases h : v < m2
        · rw [if_pos h, if_pos (by omega)]
        · rw [if_neg h, if_neg (by omega)]
      generalize W.drewN nq = W2 at *
      clear G1 HRX D1 E1 S1 B0 B1 d1 zl
      by_cases h128 : 128 ≤ m2
      · refine wpList_copyFull rfl (.tmp 21) (.tmp 25) _ _ rfl Tryz.underlying41 (z + 1 + i) 128 m2 c2 B A2 rfl rfl (fun _ => 0) (fun j => X (i * 128 + j)) G2.out HR2.out h128 ?_
        intro w2 hb2 ho2 hs2
        have H2 := Lib.hid (WholeAt.next HWZ.out D2.out E2.out S2.out B2.out hb2 ho2 hs2 (fun v hv => by have := HY.out v hv; rw [if_pos (by omega)] at this; exact this))
        clear hb2 ho2 hs2
        go_wp2_with fail
        go_roundw
        case rel => exact ⟨i + 1, by omega, by go_num, H2⟩
        case measure => simp [intOf]; omega
      · refine wpList_copyRd rfl (.tmp 21) (.tmp 25) _ _ rfl Tryz.underlying41 (z + 1 + i) 128 m2 c2 B A2 rfl rfl (fun _ => 0) (fun j => X (i * 128 + j)) G2.out HR2.out (by omega) ?_
        intro w2 hb2 ho2 hs2
        have H2 := Lib.hid (WholeAt.next HWZ.out D2.out E2.out S2.out B2.out hb2 ho2 hs2 (fun v hv => HY.out v hv))
        clear hb2 ho2 hs2
        go_wp2_with fail
        go_roundw
        case rel => exact ⟨i + 1, by omega, by go_num, H2⟩
        case measure => simp [intOf]; omega
    · obtain rfl : i = k := by omega
      go_wp2_with fail
      go_ret
      exact ⟨by rw [HWZ.out]; rfl, H.out⟩
end Arr
end Go.Proofs.YtkbndlnmbbbohaaGreatDoor
