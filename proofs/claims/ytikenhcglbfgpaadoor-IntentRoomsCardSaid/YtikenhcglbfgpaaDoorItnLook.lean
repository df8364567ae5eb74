/-
  '(*intent.Log).look' by a contract. Conditions: the rack is one, its power is on, the sector is one of its, the sums' table is laid.
-/
import Derived.Test.YtikenhcglbfgpaaDoorItnParse
namespace Go.Proofs.YtikenhcglbfgpaaDoor
open Go Go.RowKit refRack
set_option maxRecDepth 100000
set_option linter.unusedVariables false
namespace Itn
open Lab (sec sec_length sec_lst sec_lt rdb_own rdb_sec deny_of)
/-- what is read of a drive's sector: nothing, if it is gone -/
def secG (s : RS) (d q : Nat) : List Nat := if s.gone d = true then [] else sec s d q
def secY (s : RS) (d : Nat) : Int := if s.gone d = true then 3 else 0
def logA (r first count base used : Nat) : Array Value := #[.pointer (some ⟨r, 0, none⟩), .int .i64 (first : Int), .int .i64 (count : Int), .int .i64 (base : Int), .int .i64 (used : Int)]
theorem secG_lt {s : RS} (h : s.ok) (d q : Nat) : ∀ b ∈ secG s d q, b < 256 := by
  unfold secG
  split
  · intro b hb; cases hb
  · exact sec_lt h d q
theorem lookF_succ (s : RS) (q : Nat) (b k : Int) (f d : Nat) : lookF s q b k (f + 1) d = match pcAt (secG s d q) b k with | some p => some p | none => lookF s q b k f (d + 1) := by
  unfold secG
  by_cases hg : s.gone d = true
  · rw [if_pos hg, pcAt_none fun p hp => by have := pcL_length hp.1; rw [← hp.2] at this; cases this]
    show (if s.gone d = true then _ else _) = _
    rw [if_pos hg]
  · rw [if_neg hg]
    show (if s.gone d = true then _ else _) = _
    rw [if_neg hg]
    cases pcAt (sec s d q) b k <;> rfl
theorem add_fk {a b : Nat} (h : a + b ≤ 1000000) (w : World) : (binOp .add 3 (.int .i64 (a : Int)) (.int .i64 (b : Int))).run Tryd.prog w = .ok (.int .i64 ((a + b : Nat) : Int)) w := by
  rw [show binOp .add 3 (.int .i64 (a : Int)) (.int .i64 (b : Int)) = pure (.int .i64 (IntKind.i64.wrap ((a : Int) + (b : Int)))) from rfl, IntWalk.i64_in _ (by omega)]
  rfl
section
variable {B : Nat}
theorem read_s (w : World) (r : Nat) (s : RS) (d a : Nat) (h : RackAt B w r s) (hd : d < s.nd) (ha : a < s.ns) (ho : s.off = false) :
    Calls Tryd.prog 15 #[.pointer (some ⟨r, 0, none⟩), .int .i64 (d : Int), .int .i64 (a : Int)] w fun e w' => (∃ A c, e = .returned (.tuple #[.slice A (secG s d a).length c, .int .i64 (secY s d)]) ∧ RdB w' w'.heap.size A (secG s d a).length (lst (secG s d a)) ∧ (secG s d a).length ≤ c ∧ c ≤ maxLen) ∧ RackAt B w' r s ∧ Keep B w w' := by
  have hok := h.1
  have hdy := deny_of ho hd ha
  refine (read_tot w r s (d : Int) (a : Int) h).mono fun e w' ⟨⟨v, e1, e2⟩, h2, k2⟩ => ⟨?_, h2, k2⟩
  subst e1
  unfold rdN at e2
  rw [hdy] at e2 ⊢
  unfold secG secY
  by_cases hg : s.gone d = true
  · rw [if_pos hg] at e2 ⊢
    rw [if_pos hg]
    rw [if_neg (by decide)] at e2
    rcases e2.2 with ⟨e, e3⟩ | ⟨g, cap, cur, e, _, _, _, hcm, _⟩
    · exact ⟨none, 0, by rw [e]; rfl, fun j hj => absurd hj (by simp), by simp, by unfold maxLen; omega⟩
    · exact ⟨_, cap, by rw [e]; rfl, fun j hj => absurd hj (by simp), by simp, hcm⟩
  · rw [if_neg hg] at e2 ⊢
    rw [if_neg hg]
    rw [if_pos rfl] at e2
    simp only [Int.toNat_natCast] at e2
    obtain ⟨A, c, rfl, hr, hlc, hcm⟩ := rdb_own e2 (by omega) (fun j hj => RS.holds_lt hok d a j hj)
    exact ⟨A, c, by rw [sec_length], by rw [sec_length]; intro j hj; rw [sec_lst s d a j hj]; exact hr j hj, by rw [sec_length]; exact hlc, hcm⟩
def LookE (o : Option Pc) (e : Ending) : Prop := match o with
  | some p => e = .returned (.tuple #[.agg #[.bool p.l, .string p.s], .int .i64 0])
  | none => e = .returned (.tuple #[.agg #[.bool false, .string ⟨#[]⟩], .int .i64 7])
theorem y_no (s : RS) (d : Nat) : (secY s d == 16) = false := by
  unfold secY
  split <;> rfl
set_option maxHeartbeats 3200000 in
theorem look_at (w : World) (r l : Nat) (s : RS) (first count base used k : Nat) (h : RackAt B w r s) (hx : Blk w l 53 (logA r first count base used)) (hl : Laid w) (hB : 0 < B) (ho : s.off = false) (hq : first + k < s.ns) (hbs : base ≤ 1000000) (hfk : first + k ≤ 1000000) :
    Calls Tryd.prog 29 #[.pointer (some ⟨l, 0, none⟩), .int .i64 (k : Int)] w fun e w' => LookE (lookP s (first + k) (base : Int) (k : Int)) e ∧ RackAt B w' r s ∧ Keep B w w' := by
  have hle := h.le
  have HOK := Lib.hid h.1
  have HLD := Lib.hid hl
  have HO := Lib.hid ho
  have HQ := Lib.hid hq
  have HFK := Lib.hid hfk
  have HZB : Hid (Z (base : Int) ∧ Z (k : Int)) := Lib.hid ⟨⟨by omega, by omega⟩, ⟨by omega, by omega⟩⟩
  obtain ⟨W, hW⟩ : ∃ W, W = w.alloc (.cells #[.bool false, .string ⟨#[]⟩] 59) := ⟨_, rfl⟩
  obtain ⟨g4, hg4⟩ : ∃ g4, g4 = w.heap.size := ⟨_, rfl⟩
  have R0 : Hid (RackAt B W r s) := Lib.hid (by rw [hW]; exact h.alloc _)
  have K0 : Hid (Keep B w W) := Lib.hid (by rw [hW]; exact (Keep.refl B w).alloc hle _)
  have X0 : Hid (Blk W l 53 (logA r first count base used)) := Lib.hid (by rw [hW]; exact hx.alloc _)
  have G0 : Hid (Blk W g4 59 #[.bool false, .string ⟨#[]⟩]) := Lib.hid (by rw [hW, hg4]; exact Blk.new _ _ _)
  have HG4 : Hid (B ≤ g4 ∧ w.heap.size ≤ g4) := Lib.hid (by rw [hg4]; exact ⟨hle, Nat.le_refl _⟩)
  have HX := Lib.hid (⟨hW, hg4⟩ : _ ∧ _)
  obtain ⟨nd, hnd⟩ : ∃ nd, nd = s.nd := ⟨_, rfl⟩
  have HND := Lib.hid hnd
  have hnd16 : nd ≤ 16 := by rw [hnd]; exact h.1.nd2
  obtain ⟨fin, hfin⟩ : ∃ fin, fin = lookP s (first + k) (base : Int) (k : Int) := ⟨_, rfl⟩
  rw [← hfin]
  have HF0 : Hid (lookF s (first + k) (base : Int) (k : Int) (nd - 0) 0 = fin) := Lib.hid (by rw [hfin, hnd]; rfl)
  have c0 : W.cell? ⟨l, 0, none⟩ = some (.pointer (some ⟨r, 0, none⟩)) := X0.out.cell 0
  clear h hx hl ho hq hW hg4 hnd hfin hfk hbs
  go_enter Tryd.func29, Tryd.ntmps29
  go_upto_region 1 with (fail)
  rw [← HX.out.1, ← HX.out.2]
  clear HX
  go_wp2_with fail
  refine (drives_any W r s R0.out).mono ?_
  rintro e w' ⟨rfl, rfl⟩
  rw [← HND.out]
  clear c0
  go_wp2_with fail
  go_loopw [16] (fun y wr => ∃ d : Nat, d ≤ nd ∧ y = .int .i64 (d : Int) ∧ Hid (lookF s (first + k) (base : Int) (k : Int) (nd - d) d = fin) ∧ Hid (RackAt B wr r s) ∧ Hid (Keep B w wr) ∧ Hid (Blk wr l 53 (logA r first count base used)) ∧ Hid (Blk wr g4 59 #[.bool false, .string ⟨#[]⟩])) (fun y _ => nd - (intOf y).toNat)
  case atStart => exact ⟨0, by omega, rfl, HF0, R0, K0, X0, G0⟩
  case round =>
    clear HF0 R0 K0 X0 G0
    obtain ⟨d, hd, rfl, HF, R, K, X, G⟩ := hrel
    by_cases hlt : d < nd
    · have i1 : (d : Int) < (nd : Int) := by omega
      have hdn : d < s.nd := by rw [← HND.out]; exact hlt
      have HRD := Lib.hid R.out.drew
      have KD := Lib.hid K.out.drew
      have XD : Hid (Blk wr.drew l 53 (logA r first count base used)) := X
      have GD : Hid (Blk wr.drew g4 59 #[.bool false, .string ⟨#[]⟩]) := G
      have HS0 : Hid (wr.drew.cell? ⟨l, 0, none⟩ = some (.pointer (some ⟨r, 0, none⟩)) ∧ wr.drew.cell? ⟨l, 1, none⟩ = some (.int .i64 (first : Int))) := Lib.hid ⟨XD.out.cell 0, XD.out.cell 1⟩
      go_upto_region 4 with (fail)
      refine region_anyZ (fun W => W.cell? ⟨l, 0, none⟩ = some (.pointer (some ⟨r, 0, none⟩)) ∧ W.cell? ⟨l, 1, none⟩ = some (.int .i64 (first : Int))) 17 (by kernel_rfl) ?_
      refine takeG 0 (.move (.tmp 0)) (some 20) none (.pointer (some ⟨l, 0, none⟩)) (by kernel_rfl) (by kernel_rfl) (by kernel_rfl) (fun _ _ _ h => h) (fun o' wq e hS => exec_move wq e (by kernel_rfl)) HS0.out ?_
      refine takeG 1 (.nilCheck (.tmp 20)) (some 21) none (.pointer (some ⟨l, 0, none⟩)) (by kernel_rfl) (by kernel_rfl) (by kernel_rfl) (fun _ _ _ h => h) (fun o' wq e hS => exec_nil wq e (by kernel_rfl)) HS0.out ?_
      refine takeG 2 (.fieldAddr 53 (.tmp 21) 0) (some 22) none (.pointer (some ⟨l, 0, none⟩)) (by kernel_rfl) (by kernel_rfl) (by kernel_rfl) (fun _ _ _ h => h) (fun o' wq e hS => exec_field (u := .pointer (some ⟨l, 0, none⟩)) wq e (by kernel_rfl) (by kernel_rfl)) HS0.out ?_
      refine takeG 3 (.load 25 (.tmp 22)) (some 23) none (.pointer (some ⟨r, 0, none⟩)) (by kernel_rfl) (by kernel_rfl) (by kernel_rfl) (fun _ _ _ h => h) (fun o' wq e hS => exec_load (x := (.tmp 22)) e (by kernel_rfl) (load_one Tryd.underlying25 (by kernel_rfl) hS.1)) HS0.out ?_
      refine takeG 4 (.move (.tmp 6)) (some 24) none (.int .i64 (d : Int)) (by kernel_rfl) (by kernel_rfl) (by kernel_rfl) (fun _ _ _ h => h) (fun o' wq e hS => exec_move wq e (by kernel_rfl)) HS0.out ?_
      refine takeG 5 (.move (.tmp 0)) (some 25) none (.pointer (some ⟨l, 0, none⟩)) (by kernel_rfl) (by kernel_rfl) (by kernel_rfl) (fun _ _ _ h => h) (fun o' wq e hS => exec_move wq e (by kernel_rfl)) HS0.out ?_
      refine takeG 6 (.nilCheck (.tmp 25)) (some 26) none (.pointer (some ⟨l, 0, none⟩)) (by kernel_rfl) (by kernel_rfl) (by kernel_rfl) (fun _ _ _ h => h) (fun o' wq e hS => exec_nil wq e (by kernel_rfl)) HS0.out ?_
      refine takeG 7 (.fieldAddr 53 (.tmp 26) 1) (some 27) none (.pointer (some ⟨l, 1, none⟩)) (by kernel_rfl) (by kernel_rfl) (by kernel_rfl) (fun _ _ _ h => h) (fun o' wq e hS => exec_field (u := .pointer (some ⟨l, 0, none⟩)) wq e (by kernel_rfl) (by kernel_rfl)) HS0.out ?_
      refine takeG 8 (.load 3 (.tmp 27)) (some 28) none (.int .i64 (first : Int)) (by kernel_rfl) (by kernel_rfl) (by kernel_rfl) (fun _ _ _ h => h) (fun o' wq e hS => exec_load (x := (.tmp 27)) e (by kernel_rfl) (load_one Tryd.underlying3 (by kernel_rfl) hS.2)) HS0.out ?_
      refine takeG 9 (.move (.tmp 1)) (some 29) none (.int .i64 (k : Int)) (by kernel_rfl) (by kernel_rfl) (by kernel_rfl) (fun _ _ _ h => h) (fun o' wq e hS => exec_move wq e (by kernel_rfl)) HS0.out ?_
      refine takeG 10 (.binOp .add 3 (.tmp 28) (.tmp 29) 3) (some 30) none (.int .i64 ((first + k : Nat) : Int)) (by kernel_rfl) (by kernel_rfl) (by kernel_rfl) (fun _ _ _ h => h) (fun o' wq e hS => exec_bin (u1 := .int .i64 (first : Int)) (u2 := .int .i64 (k : Int)) wq e (by kernel_rfl) (by kernel_rfl) (eqG_int ..) (add_fk HFK.out _)) HS0.out ?_
      refine loneG 11 (.call ⟨.value (.func 15), #[(.tmp 23), (.tmp 24), (.tmp 30)], #[25, 3, 3]⟩) (some 31) none (by kernel_rfl) (by kernel_rfl) (by kernel_rfl) ?_
      intro o' ho hod
      refine wp_callC (f := 15) (args := #[.pointer (some ⟨r, 0, none⟩), .int .i64 (d : Int), .int .i64 ((first + k : Nat) : Int)]) (by cases o'; cases ho; kernel_rfl) (read_s _ r s d (first + k) HRD.out hdn HQ.out HO.out) ?_
      rintro e w2 ⟨⟨A2, c2, rfl, r2, lc2, cm2⟩, h2, k2⟩
      refine ⟨_, rfl, ?_⟩
      rw [hod]
      clear hod ho
      have R2 := Lib.hid h2
      have K2 := Lib.hid (KD.out.trans k2)
      have X2 := Lib.hid (k2.block XD.out rfl)
      have G2 := Lib.hid (k2.block GD.out rfl)
      have HS1 : Hid (w2.cell? ⟨l, 0, none⟩ = some (.pointer (some ⟨r, 0, none⟩)) ∧ w2.cell? ⟨l, 1, none⟩ = some (.int .i64 (first : Int))) := Lib.hid ⟨X2.out.cell 0, X2.out.cell 1⟩
      have HRB := Lib.hid (⟨r2, lc2, cm2⟩ : _ ∧ _ ∧ _)
      clear h2 k2 r2 lc2 cm2
      refine ⟨fun _ => HS1.out, ?_⟩

      refine takeG 12 (.move (.tmp 31)) (some 19) none (.tuple #[.slice A2 (secG s d (first + k)).length c2, .int .i64 (secY s d)]) (by kernel_rfl) (by kernel_rfl) (by kernel_rfl) (fun _ _ _ h => h) (fun o' wq e hS => exec_move wq e (by kernel_rfl)) HS1.out ?_
      refine takeG 13 (.extract (.tmp 19) 0) (some 32) none (.slice A2 (secG s d (first + k)).length c2) (by kernel_rfl) (by kernel_rfl) (by kernel_rfl) (fun _ _ _ h => h) (fun o' wq e hS => exec_ext (vs := #[.slice A2 (secG s d (first + k)).length c2, .int .i64 (secY s d)]) wq e (by kernel_rfl) (by rfl)) HS1.out ?_
      refine takeG 14 (.extract (.tmp 19) 1) (some 33) none (.int .i64 (secY s d)) (by kernel_rfl) (by kernel_rfl) (by kernel_rfl) (fun _ _ _ h => h) (fun o' wq e hS => exec_ext (vs := #[.slice A2 (secG s d (first + k)).length c2, .int .i64 (secY s d)]) wq e (by kernel_rfl) (by rfl)) HS1.out ?_
      refine takeG 15 (.assign (.tmp 32)) (some 7) none (.slice A2 (secG s d (first + k)).length c2) (by kernel_rfl) (by kernel_rfl) (by kernel_rfl) (fun _ _ _ h => h) (fun o' wq e hS => exec_assign wq e (by kernel_rfl)) HS1.out ?_
      refine lastS 16 (.assign (.tmp 33)) (some 8) (.int .i64 (secY s d)) (by kernel_rfl) (by kernel_rfl) (by kernel_rfl) HS1.out (fun o' e => exec_assign _ e (by kernel_rfl)) ?_
      simp only [put_some, put_none, List.setIfInBounds_toArray, List.set_cons_succ, List.set_cons_zero]
      clear HS0 HS1 HRD KD XD GD R K X G
      have HYN := y_no s d
      obtain ⟨y, hy⟩ : ∃ y, y = secY s d := ⟨_, rfl⟩
      obtain ⟨L, hL⟩ : ∃ L, L = secG s d (first + k) := ⟨_, rfl⟩
      rw [← hy] at HYN
      rw [← hy, ← hL]
      rw [← hL] at HRB
      have HLT : Hid (∀ b ∈ L, b < 256) := Lib.hid (by rw [hL]; exact secG_lt HOK.out d _)
      have hstep : lookF s (first + k) (base : Int) (k : Int) (nd - d) d = match pcAt L (base : Int) (k : Int) with | some p => some p | none => lookF s (first + k) (base : Int) (k : Int) (nd - (d + 1)) (d + 1) := by
        rw [show nd - d = (nd - (d + 1)) + 1 by omega, hL]
        exact lookF_succ s _ _ _ _ _
      rw [hstep] at HF
      have HPR := Lib.hid (parse_at A2 L c2 w2.heap.size w2 (base : Int) (k : Int) HZB.out.1 HZB.out.2 HRB.out.1 (Nat.le_refl _) HLT.out HRB.out.2.1 HRB.out.2.2 (HLD.out.below K2.out.below hB))
      have c3 : w2.cell? ⟨l, 3, none⟩ = some (.int .i64 (base : Int)) := X2.out.cell 3
      clear hstep hy hL
      go_wp2_with fail
      refine HPR.out.mono ?_
      rintro e w3 ⟨hp, b3⟩
      have R3 := Lib.hid (R2.out.below b3)
      have K3 := Lib.hid (K2.out.new b3 (Nat.le_trans hle K2.out.below.size))
      have X3 := Lib.hid (X2.out.new_ b3)
      have G3 := Lib.hid (G2.out.new_ b3)
      clear b3 R2 K2 X2 G2 HPR c3
      rcases hp with ⟨p, his, rfl⟩ | ⟨hno, rfl⟩
      · have HFP : Hid (fin = some p) := Lib.hid (by have h := HF.out; rw [pcAt_some his] at h; exact h.symm)
        obtain ⟨pl, ps⟩ := p
        clear his HF
        dsimp only
        obtain ⟨W4, hW4⟩ : ∃ W4, W4 = w3.alloc (.cells #[.bool pl, .string ps] 59) := ⟨_, rfl⟩
        obtain ⟨g9, hg9⟩ : ∃ g9, g9 = w3.heap.size := ⟨_, rfl⟩
        have HX4 := Lib.hid (⟨hW4, hg9⟩ : _ ∧ _)
        have R4 : Hid (RackAt B W4 r s) := Lib.hid (by rw [hW4]; exact R3.out.alloc _)
        have K4 : Hid (Keep B w W4) := Lib.hid (by rw [hW4]; exact K3.out.alloc (Nat.le_trans hle K3.out.below.size) _)
        have G4 : Hid (Blk W4 g4 59 #[.bool false, .string ⟨#[]⟩]) := Lib.hid (by rw [hW4]; exact G3.out.alloc _)
        have G9 : Hid (Blk W4 g9 59 #[.bool pl, .string ps]) := Lib.hid (by rw [hW4, hg9]; exact Blk.new _ _ _)
        have d0 := G4.out.cell 0
        have d1 := G4.out.cell 1
        have e0 := G4.out.frozen 0
        have e1 := G4.out.frozen 1
        have f0 := G9.out.cell 0
        have f1 := G9.out.cell 1
        simp only [List.getElem?_toArray, List.getElem?_cons_zero, List.getElem?_cons_succ] at d0 d1 f0 f1
        clear hW4 hg9 R3 K3 X3 G3
        go_upto_region 8 with (fail)
        rw [← HX4.out.1, ← HX4.out.2]
        clear HX4
        go_wp2_with fail
        refine bodyPost_ret (results_cell2 rfl rfl (loadVar_blk ((G4.out.set_ 0 (.bool pl)).set_ 1 (.string ps)) Tryd.underlying59 rfl isize_piece) rfl) rfl ?_
        rw [HFP.out]
        exact ⟨rfl, (R4.out.far G4.out rfl rfl).far (G4.out.set_ 0 _) rfl rfl, (K4.out.grownNew (grown_set _ g4 0 _) HG4.out.1 (Nat.le_trans hle K4.out.below.size) HG4.out.2).grownNew (grown_set _ g4 1 _) HG4.out.1 (by have := Nat.le_trans hle K4.out.below.size; simp [World.setCell]; exact this) HG4.out.2⟩
      · have HF2 : Hid (lookF s (first + k) (base : Int) (k : Int) (nd - (d + 1)) (d + 1) = fin) := Lib.hid (by have h := HF.out; rw [pcAt_none hno] at h; exact h)
        have R4 := Lib.hid (R3.out.alloc (.cells #[.bool false, .string ⟨#[]⟩] 59))
        have K4 := Lib.hid (K3.out.alloc (Nat.le_trans hle K3.out.below.size) (.cells #[.bool false, .string ⟨#[]⟩] 59))
        have X4 := Lib.hid (X3.out.alloc (.cells #[.bool false, .string ⟨#[]⟩] 59))
        have G4 := Lib.hid (G3.out.alloc (.cells #[.bool false, .string ⟨#[]⟩] 59))
        clear HF hno R3 K3 X3 G3
        go_wp2_with fail
        go_roundw
        case rel => exact ⟨d + 1, by omega, by go_num, HF2, R4, K4, X4, G4⟩
        case measure => simp [intOf]; omega
    · have i1 : ¬ ((d : Int) < (nd : Int)) := by omega
      have HFN : Hid (fin = none) := Lib.hid (by
        have h := HF.out
        rw [show nd - d = 0 by omega] at h
        exact h.symm)
      have d0 := G.out.cell 0
      have d1 := G.out.cell 1
      have e0 := G.out.frozen 0
      have e1 := G.out.frozen 1
      simp only [List.getElem?_toArray, List.getElem?_cons_zero, List.getElem?_cons_succ] at d0 d1
      clear HF
      go_wp2_with fail
      refine bodyPost_ret (results_cell2 rfl rfl (loadVar_blk ((G.out.set_ 0 (.bool false)).set_ 1 (.string ⟨#[]⟩)) Tryd.underlying59 rfl isize_piece) rfl) rfl ?_
      rw [HFN.out]
      exact ⟨rfl, (R.out.far G.out rfl rfl).far (G.out.set_ 0 _) rfl rfl, (K.out.grownNew (grown_set _ g4 0 _) HG4.out.1 (Nat.le_trans hle K.out.below.size) HG4.out.2).grownNew (grown_set _ g4 1 _) HG4.out.1 (by have := Nat.le_trans hle K.out.below.size; simp [World.setCell]; exact this) HG4.out.2⟩
end
end Itn
end Go.Proofs.YtikenhcglbfgpaaDoor
