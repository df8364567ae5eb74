/-
 '(part).with' by a contract. Conditions: the ranges rise and are short; no cell of the range that is added is in it.
-/
import Derived.Test.YtgbehfkimchglaaGreatDoorSpcPartM
import Derived.Test.YtgbehfkimchglaaGreatDoorStrBM
import Derived.Deep.DeepCutAuto
namespace Go.Proofs.YtgbehfkimchglaaGreatDoor
open Go Go.RowKit
set_option maxRecDepth 100000
set_option linter.unusedVariables false
namespace Sp
theorem Blk_new {w w' : World} {g : Nat} {t : TypeId} {cs : Array Value} (h : Blk w g t cs) (hb : Below w.heap.size w w') : Blk w' g t cs := h.below hb h.lt
theorem size_int : (Tryz.prog.info? 3).map (·.size) = some 1 := by kernel_rfl
theorem size_range : (Tryz.prog.info? 61).map (·.size) = some 2 := by kernel_rfl
theorem size_part : (Tryz.prog.info? 147).map (·.size) = some 2 := by kernel_rfl
theorem add_run (c : Nat) (a b : Nat) (hab : a < b) (h1 : c ≤ 1000000) (h2 : b ≤ 1000000) (w : World) : (binOp .add 3 (.int .i64 (c : Int)) (.int .i64 ((b : Int) - (a : Int)))).run Tryz.prog w = .ok (.int .i64 ((c + (b - a) : Nat) : Int)) w := by
 rw [show binOp .add 3 (.int .i64 (c : Int)) (.int .i64 ((b : Int) - (a : Int))) = pure (.int .i64 (IntKind.i64.wrap ((c : Int) + ((b : Int) - (a : Int))))) from rfl, IntKind.wrap_i64]
 rw [show ((c : Int) + ((b : Int) - (a : Int)) + 9223372036854775808) % 18446744073709551616 - 9223372036854775808 = ((c + (b - a) : Nat) : Int) by omega]
 rfl
theorem load_range {W : World} {g a b : Nat} (h : Blk W g 61 #[.int .i64 (a : Int), .int .i64 (b : Int)]) : (Instr.loadAt 61 (.pointer (some ⟨g, 0, none⟩))).run Tryz.prog W = .ok (.agg #[.int .i64 (a : Int), .int .i64 (b : Int)]) W :=
 load_blk h Tryz.underlying61 rfl size_range
theorem pl_one {W : World} {g : Nat} {r : Rg} (h : Blk W g 61 #[.int .i64 (r.1 : Int), .int .i64 (r.2 : Int)]) : Pl W g [r] := ⟨_, h, fun j v hj => by rw [← hj]; simp [rcells]⟩
def hitL (a P : Nat) (l : List Rg) : Bool := match l[P]? with | some r => decide (r.2 = a) | none => false
def hitR (b P : Nat) (l : List Rg) : Bool := match l[P]? with | some r => decide (r.1 = b) | none => false
theorem hitL_true {a P : Nat} {l : List Rg} (h : hitL a P l = true) : ∃ r, l[P]? = some r ∧ r.2 = a := by
 unfold hitL at h
 cases e : l[P]? with
 | none => rw [e] at h; cases h
 | some r => rw [e] at h; exact ⟨r, rfl, of_decide_eq_true h⟩
theorem hitL_false {a P : Nat} {l : List Rg} (h : hitL a P l = false) : ∀ r, l[P]? = some r → r.2 ≠ a := fun r e => by
 unfold hitL at h
 rw [e] at h
 exact of_decide_eq_false h
theorem hitR_true {a P : Nat} {l : List Rg} (h : hitR a P l = true) : ∃ r, l[P]? = some r ∧ r.1 = a := by
 unfold hitR at h
 cases e : l[P]? with
 | none => rw [e] at h; cases h
 | some r => rw [e] at h; exact ⟨r, rfl, of_decide_eq_true h⟩
theorem hitR_false {a P : Nat} {l : List Rg} (h : hitR a P l = false) : ∀ r, l[P]? = some r → r.1 ≠ a := fun r e => by
 unfold hitR at h
 rw [e] at h
 exact of_decide_eq_false h
theorem Rd.at_ {w : World} {A : Option Addr} {l : List Rg} (h : Rd w A l) {i : Nat} (hi : i < l.length) : ∃ r g o, l[i]? = some r ∧ A = some ⟨g, o, none⟩ ∧ w.cell? ⟨g, o + i * 2, none⟩ = some (.int .i64 (r.1 : Int)) ∧ w.cell? ⟨g, o + i * 2 + 1, none⟩ = some (.int .i64 (r.2 : Int)) := by
 rcases h with e | ⟨g, o, e, _, hc⟩
 ·rw [e] at hi; simp at hi
 ·have hg := List.getElem?_eq_getElem hi
  have h1 := hc _ _ (rcells_get hg).1
  have h2 := hc _ _ (rcells_get hg).2
  rw [← Nat.add_assoc] at h2
  exact ⟨l[i], g, o, hg, e, h1, h2⟩
def PartPost (w : World) (base : Nat) (v : Value) (r : List Rg) (v' : Value) (w' : World) : Prop := Own w' base v' r ∧ w.grownBy w' v.ownBlock ∧ (v'.ownBlock = v.ownBlock ∨ ∃ g, v'.ownBlock = some g ∧ w.heap.size ≤ g)
theorem left_hit {a P : Nat} {l : List Rg} {r : Rg} (h : l[P]? = some r) (e : r.2 = a) : leftL a P l = (r.1, P + 1) := by
 unfold leftL
 rw [h]
 exact if_pos e
theorem left_miss {a P : Nat} {l : List Rg} (h : ∀ r, l[P]? = some r → r.2 ≠ a) : leftL a P l = (a, P) := by
 unfold leftL
 cases e : l[P]? with
 | none => rfl
 | some r => exact if_neg (h r e)
theorem right_hit {b P : Nat} {l : List Rg} {r : Rg} (h : l[P]? = some r) (e : r.1 = b) : rightL b P l = (r.2, P + 1) := by
 unfold rightL
 rw [h]
 exact if_pos e
theorem right_miss {b P : Nat} {l : List Rg} (h : ∀ r, l[P]? = some r → r.1 ≠ b) : rightL b P l = (b, P) := by
 unfold rightL
 cases e : l[P]? with
 | none => rfl
 | some r => exact if_neg (h r e)
theorem Ris.in_ {lo : Nat} : ∀ {l}, Ris lo l → ∀ {N}, (∀ c, mem l c → c < N) → ∀ r ∈ l, r.1 ≤ N ∧ r.2 ≤ N
 | [], _, N, _, r, h => by cases h
 | q :: l, h, N, hN, r, hr => by
  rcases List.mem_cons.1 hr with rfl | hr
  ·have h2 := h.2.1
   have := hN (r.2 - 1) ((mem_cons r l (r.2 - 1)).2 (.inl ⟨by omega, by omega⟩))
   omega
  ·exact Ris.in_ h.2.2 (fun c hc => hN c ((mem_cons q l c).2 (.inr hc))) r hr
theorem ob_ne {w : World} {v : Value} {q : Nat} (h : ∀ q, v.ownBlock = some q → q < w.heap.size) (hq : w.heap.size ≤ q) : v.ownBlock ≠ some q := fun e => absurd (h q e) (Nat.not_lt.2 hq)
theorem with_end {w W9 W10 : World} {base b2 : Nat} {v v' : Value} {r : List Rg} (ho : Own W10 base v' r) (hg : W9.grownBy W10 v.ownBlock) (hor : v'.ownBlock = v.ownBlock ∨ v'.ownBlock = some W9.heap.size) (hl : Below w.heap.size w W9) (hob : ∀ q, v.ownBlock = some q → q < w.heap.size) (hb2 : b2 = w.heap.size) (hlt : b2 + 1 + 1 < W9.heap.size) {x : Value} :
  ∃ u, Ending.returned (.agg #[v', x]) = .returned (.agg #[u, x]) ∧ PartPost w base v r u (((W10.setCell ⟨b2, 0, none⟩ v').setCell ⟨b2 + 1 + 1, 0, none⟩ v').setCell ⟨b2 + 1 + 1, 1, none⟩ x) := by
 have hne : ∀ g, v'.ownBlock = some g → g ≠ b2 ∧ g ≠ b2 + 1 + 1 := fun g e => by
  rcases hor with h | h
  ·have := hob g (h.symm.trans e); omega
  ·rw [h] at e; injection e with e; omega
 refine ⟨v', rfl, ?_, ?_, ?_⟩
 ·exact ((ho.grown (grown_set W10 b2 0 v') (fun g e h => (hne g e).1 (by injection h))).grown (grown_set _ (b2 + 1 + 1) 0 v') (fun g e h => (hne g e).2 (by injection h))).grown (grown_set _ (b2 + 1 + 1) 1 x) (fun g e h => (hne g e).2 (by injection h))
 ·have s1 := grown_set W10 b2 0 v'
  have s2 := grown_set (W10.setCell ⟨b2, 0, none⟩ v') (b2 + 1 + 1) 0 v'
  have s3 := grown_set ((W10.setCell ⟨b2, 0, none⟩ v').setCell ⟨b2 + 1 + 1, 0, none⟩ v') (b2 + 1 + 1) 1 x
  have hz := hl.size
  have hz2 := hg.size
  refine ⟨s3.os.trans (s2.os.trans (s1.os.trans (hg.os.trans hl.os))), s3.tape.trans (s2.tape.trans (s1.tape.trans (hg.tape.trans hl.tape))), s3.output.trans (s2.output.trans (s1.output.trans (hg.output.trans hl.output))), Nat.le_trans hz (Nat.le_trans hz2 (Nat.le_trans s1.size (Nat.le_trans s2.size s3.size))), fun k hk hkn => ?_⟩
  have k1 := s1.block k (by omega) (fun e => by injection e with e; omega)
  have k2 := s2.block k (Nat.lt_of_lt_of_le (by omega : k < W10.heap.size) s1.size) (fun e => by injection e with e; omega)
  have k3 := s3.block k (Nat.lt_of_lt_of_le (by omega : k < W10.heap.size) (Nat.le_trans s1.size s2.size)) (fun e => by injection e with e; omega)
  exact k3.trans (k2.trans (k1.trans ((hg.block k (by omega) hkn).trans (hl.block k hk))))
 ·rcases hor with h | h
  ·exact .inl h
  ·exact .inr ⟨_, h, hl.size⟩
set_option maxHeartbeats 6400000 in
theorem with_rg (w : World) (base : Nat) (v : Value) (l : List Rg) (cnt a b : Nat) (h : Own w base v l) (hbs : base ≤ w.heap.size) (hn : l.length ≤ 100000) (hcnt : cnt ≤ 1000000) (hab : a < b) (hbm : b ≤ 1000000) {lo0 : Nat} (hr : Ris lo0 l) :
  Calls Tryz.prog 122 #[.agg #[v, .int .i64 (cnt : Int)], .agg #[.int .i64 (a : Int), .int .i64 (b : Int)]] w fun e w' => ∃ v', e = .returned (.agg #[v', .int .i64 ((cnt + (b - a) : Nat) : Int)]) ∧ PartPost w base v (withL a b l) v' w' := by
 obtain ⟨A, c, rfl, hRd, hlc, hcm, hAc⟩ := h.shape
 obtain ⟨b2, hb2⟩ : ∃ b2, b2 = w.heap.size := ⟨_, rfl⟩
 obtain ⟨W, hW⟩ : ∃ W, W = ((w.alloc (.cells #[.slice A l.length c, .int .i64 (cnt : Int)] 147)).alloc (.cells #[.int .i64 (a : Int), .int .i64 (b : Int)] 61)).alloc (.cells #[.slice none 0 0, .int .i64 0] 147) := ⟨_, rfl⟩
 have hs1 : (w.alloc (.cells #[.slice A l.length c, .int .i64 (cnt : Int)] 147)).heap.size = b2 + 1 := by rw [hb2]; simp
 have hs2 : ((w.alloc (.cells #[.slice A l.length c, .int .i64 (cnt : Int)] 147)).alloc (.cells #[.int .i64 (a : Int), .int .i64 (b : Int)] 61)).heap.size = b2 + 1 + 1 := by rw [hb2]; simp
 have hb : Below w.heap.size w W := by rw [hW]; exact (((Below.refl _ _).alloc (Nat.le_refl _) _).alloc (by rw [hs1]; omega) _).alloc (by rw [hs2]; omega) _
 have X2 : Blk W b2 147 #[.slice A l.length c, .int .i64 (cnt : Int)] := by rw [hW, hb2]; exact ((Blk.new _ _ _).alloc _).alloc _
 have X3 : Blk W (b2 + 1) 61 #[.int .i64 (a : Int), .int .i64 (b : Int)] := by
  have h := (Blk.new (w.alloc (.cells #[.slice A l.length c, .int .i64 (cnt : Int)] 147)) 61 #[.int .i64 (a : Int), .int .i64 (b : Int)]).alloc (.cells #[.slice none 0 0, .int .i64 0] 147)
  rw [hs1, ← hW] at h
  exact h
 have X4 : Blk W (b2 + 1 + 1) 147 #[.slice none 0 0, .int .i64 0] := by
  have h := Blk.new ((w.alloc (.cells #[.slice A l.length c, .int .i64 (cnt : Int)] 147)).alloc (.cells #[.int .i64 (a : Int), .int .i64 (b : Int)] 61)) 147 #[.slice none 0 0, .int .i64 0]
  rw [hs2, ← hW] at h
  exact h
 have HO := Lib.hid h
 have HRD := Lib.hid hRd
 have L1 := Lib.hid hb
 have B2 := Lib.hid X2
 have B3 := Lib.hid X3
 have B4 := Lib.hid X4
 have HLC := Lib.hid hlc
 have HCM := Lib.hid hcm
 have HBB := Lib.hid hb2
 have HRI := Lib.hid hr
 have HHN := Lib.hid hn
 have HWL : Hid (withL a b l = l.take (pos a l) ++ ((leftL a (pos a l) l).1, (rightL b (leftL a (pos a l) l).2 l).1) :: l.drop (rightL b (leftL a (pos a l) l).2 l).2) := Lib.hid rfl
 obtain ⟨WL, hWL⟩ : ∃ WL, WL = withL a b l := ⟨_, rfl⟩
 rw [← hWL] at HWL ⊢
 have hpn := pos_le a l
 have HAB := Lib.hid hab
 have HBM := Lib.hid hbm
 obtain ⟨n, hnn⟩ : ∃ n, n = l.length := ⟨_, rfl⟩
 have HN := Lib.hid hnn
 have HON : Hid (Own w base (.slice A n c) l) := Lib.hid (by rw [hnn]; exact h)
 rw [← hnn] at B2 hW hpn hlc hn ⊢
 clear hb X2 X3 X4 h hRd hr hs1 hs2 hWL hnn hcm
 go_enter Tryz.func122, Tryz.ntmps122
 go_upto_region 1 with (fail)
 rw [← hW, ← HBB.out]
 clear hW hb2
 have HS := Lib.hid (⟨B2.out.drew, B3.out.drew⟩ : Blk W.drew b2 147 #[.slice A n c, .int .i64 (cnt : Int)] ∧ Blk W.drew (b2 + 1) 61 #[.int .i64 (a : Int), .int .i64 (b : Int)])
 refine region_anyZ (fun w' => Blk w' b2 147 #[.slice A n c, .int .i64 (cnt : Int)] ∧ Blk w' (b2 + 1) 61 #[.int .i64 (a : Int), .int .i64 (b : Int)]) 6 (by kernel_rfl) ?_
 refine takeG 0 (.fieldAddr 147 (.tmp 2) 1) (some 7) none (.pointer (some ⟨b2, 1, none⟩)) (by kernel_rfl) (by kernel_rfl) (by kernel_rfl) (fun _ _ _ h => h) (fun o wq e hS => exec_field (u := .pointer (some ⟨b2, 0, none⟩)) wq e (by kernel_rfl) (by kernel_rfl)) HS.out ?_
 refine takeG 1 (.load 3 (.tmp 7)) (some 8) none (.int .i64 (cnt : Int)) (by kernel_rfl) (by kernel_rfl) (by kernel_rfl) (fun _ _ _ h => h) (fun o wq e hS => exec_load (x := (.tmp 7)) e (by kernel_rfl) (load_one Tryz.underlying3 (by kernel_rfl) (hS.1.cell 1))) HS.out ?_
 refine takeG 2 (.load 61 (.tmp 3)) (some 9) none (.agg #[.int .i64 (a : Int), .int .i64 (b : Int)]) (by kernel_rfl) (by kernel_rfl) (by kernel_rfl) (fun _ _ _ h => h) (fun o wq e hS => exec_load (x := (.tmp 3)) e (by kernel_rfl) (load_range hS.2)) HS.out ?_
 refine loneG 3 (.call ⟨.value (.func 164), #[(.tmp 9)], #[61]⟩) (some 10) none (by kernel_rfl) (by kernel_rfl) (by kernel_rfl) ?_
 intro o ho hod
 refine wp_callC (f := 164) (args := #[.agg #[.int .i64 (a : Int), .int .i64 (b : Int)]]) (by cases o; cases ho; kernel_rfl) (size_rg _ a b (by have := HAB.out; have := HBM.out; omega) HBM.out) ?_
 rintro e W4 ⟨rfl, b4⟩
 refine ⟨.int .i64 ((b : Int) - (a : Int)), rfl, ?_⟩
 rw [hod]
 clear hod ho
 have HS9 := Lib.hid (⟨Blk_new HS.out.1 b4, Blk_new HS.out.2 b4⟩ : Blk W4 b2 147 #[.slice A n c, .int .i64 (cnt : Int)] ∧ Blk W4 (b2 + 1) 61 #[.int .i64 (a : Int), .int .i64 (b : Int)])
 have HB4 := Lib.hid (Blk_new B4.out.drew b4)
 have L4 := Lib.hid (L1.out.drew.trans (b4.mono L1.out.drew.size))
 clear b4 L1 B2 B3 HS
 refine ⟨fun _ => HS9.out, ?_⟩
 refine takeG 4 (.binOp .add 3 (.tmp 8) (.tmp 10) 3) (some 11) none (.int .i64 ((cnt + (b - a) : Nat) : Int)) (by kernel_rfl) (by kernel_rfl) (by kernel_rfl) (fun _ _ _ h => h) (fun o wq e hS => exec_bin (u1 := .int .i64 (cnt : Int)) (u2 := .int .i64 ((b : Int) - (a : Int))) wq e (by kernel_rfl) (by kernel_rfl) (eqG_int ..) (add_run cnt a b HAB.out hcnt HBM.out _)) HS9.out ?_
 refine takeG 5 (.fieldAddr 147 (.tmp 2) 1) (some 12) none (.pointer (some ⟨b2, 1, none⟩)) (by kernel_rfl) (by kernel_rfl) (by kernel_rfl) (fun _ _ _ h => h) (fun o wq e hS => exec_field (u := .pointer (some ⟨b2, 0, none⟩)) wq e (by kernel_rfl) (by kernel_rfl)) HS9.out ?_
 refine lastStore 6 3 (.tmp 12) (.tmp 11) (.pointer (some ⟨b2, 1, none⟩)) (.int .i64 ((cnt + (b - a) : Nat) : Int)) _ (by kernel_rfl) (by kernel_rfl) (by kernel_rfl) rfl (by kernel_rfl) (by kernel_rfl) (store_one size_int rfl rfl (by rw [HS9.out.1.cell 1]; rfl) (HS9.out.1.frozen 1) (by rw [add_plain])) ?_
 simp only [put_some, put_none, List.setIfInBounds_toArray, List.set_cons_succ, List.set_cons_zero]
 have Y2 : Hid (Blk (W4.setCell ⟨b2, 1, none⟩ (.int .i64 ((cnt + (b - a) : Nat) : Int))) b2 147 #[.slice A n c, .int .i64 ((cnt + (b - a) : Nat) : Int)]) := Lib.hid (HS9.out.1.set_ 1 _)
 have Y3 : Hid (Blk (W4.setCell ⟨b2, 1, none⟩ (.int .i64 ((cnt + (b - a) : Nat) : Int))) (b2 + 1) 61 #[.int .i64 (a : Int), .int .i64 (b : Int)]) := Lib.hid (HS9.out.2.far (p := ⟨b2, 1, none⟩) (by simp) _)
 have Y4 : Hid (Blk (W4.setCell ⟨b2, 1, none⟩ (.int .i64 ((cnt + (b - a) : Nat) : Int))) (b2 + 1 + 1) 147 #[.slice none 0 0, .int .i64 0]) := Lib.hid (HB4.out.far (p := ⟨b2, 1, none⟩) (by show b2 + 1 + 1 ≠ b2; omega) _)
 have L5 : Hid (Below w.heap.size w (W4.setCell ⟨b2, 1, none⟩ (.int .i64 ((cnt + (b - a) : Nat) : Int)))) := Lib.hid (L4.out.setCell (p := ⟨b2, 1, none⟩) (by rw [← HBB.out]; exact Nat.le_refl _) _)
 obtain ⟨CT, hCT⟩ : ∃ CT, CT = cnt + (b - a) := ⟨_, rfl⟩
 rw [← hCT] at Y2 Y3 Y4 L5 ⊢
 have HCT := Lib.hid hCT
 generalize W4.setCell ⟨b2, 1, none⟩ (.int .i64 (CT : Int)) = W5 at *
 clear hCT HS9 HB4 L4 B4
 have HE := Lib.hid (ending_rg W5 A l c a (CT : Int) (HRD.out.below L5.out) HHN.out HRI.out)
 obtain ⟨P, hP⟩ : ∃ P, P = pos a l := ⟨_, rfl⟩
 rw [← hP] at HE HWL hpn
 rw [← HN.out] at HE
 have d0 : W5.cell? ⟨b2, 0, none⟩ = some (.slice A n c) := Y2.out.cell 0
 have d1 : W5.cell? ⟨b2, 1, none⟩ = some (.int .i64 (CT : Int)) := Y2.out.cell 1
 have f0 : W5.cell? ⟨b2 + 1, 0, none⟩ = some (.int .i64 (a : Int)) := Y3.out.cell 0
 clear hP
 go_wp2_with fail
 refine HE.out.mono ?_
 rintro e W6 ⟨rfl, b6⟩
 have lt6 : b2 + 1 + 1 < W5.heap.size := Y4.out.lt
 have Z2 := Lib.hid (Y2.out.below b6 (by omega))
 have Z3 := Lib.hid (Y3.out.below b6 (by omega))
 have Z4 := Lib.hid (Y4.out.below b6 lt6)
 have L6 := Lib.hid (L5.out.trans (b6.mono L5.out.size))
 clear b6 HE Y2 Y3 Y4 L5 d0 d1 f0 lt6
 go_upto_region 4 with (fail)
 have HR6 := Lib.hid (HRD.out.below L6.out)
 have g0 : W6.cell? ⟨b2, 0, none⟩ = some (.slice A n c) := Z2.out.cell 0
 have k0 : W6.cell? ⟨b2 + 1, 0, none⟩ = some (.int .i64 (a : Int)) := Z3.out.cell 0
 go_cut [33] (fun s wx => ∃ bb : Bool, s = .bool bb ∧ Hid (bb = hitL a P l) ∧ wx = W6.drew)
 case first =>
  by_cases hlt : P < n
  ·obtain ⟨r, g, o, hg, hAe, h1, h2⟩ := HR6.out.at_ (i := P) (by have := HN.out; omega)
   subst hAe
   have t1 : (P : Int) < (n : Int) := by omega
   have i1 : (0 : Int) ≤ (P : Int) := by omega
   have hh : Hid (hitL a P l = decide (r.2 = a)) := Lib.hid (by unfold hitL; rw [hg])
   obtain ⟨y, hy⟩ : ∃ y, y = r.2 := ⟨_, rfl⟩
   rw [← hy] at h2 hh
   clear hg hy h1
   by_cases hya : y = a
   ·have hb2 : Hid (true = hitL a P l) := Lib.hid (by rw [hh.out, decide_eq_true hya])
    subst hya
    go_region
    go_wp2_with fail
    go_meet
    exact ⟨_, rfl, hb2, rfl⟩
   ·have hb2 : Hid (false = hitL a P l) := Lib.hid (by rw [hh.out, decide_eq_false hya])
    have t2 : ((y : Int) == (a : Int)) = false := by simp; omega
    have t3 : ¬ ((y : Int) = (a : Int)) := by omega
    go_region
    go_wp2_with fail
    go_meet
    exact ⟨_, rfl, hb2, rfl⟩
  ·have t1 : ¬ ((P : Int) < (n : Int)) := by omega
   have hb2 : Hid (false = hitL a P l) := Lib.hid (by unfold hitL; rw [List.getElem?_eq_none (by have := HN.out; omega)])
   go_region
   go_wp2_with fail
   go_meet
   exact ⟨_, rfl, hb2, rfl⟩
 case rest =>
 obtain ⟨bb, rfl, HC1, rfl⟩ := hcut
 clear g0 k0
 have V2 := Lib.hid Z2.out.drew
 have V3 := Lib.hid Z3.out.drew
 have V4 := Lib.hid Z4.out.drew
 have L7 := Lib.hid L6.out.drew
 clear Z2 Z3 Z4 L6 HR6
 generalize W6.drew = W7 at *
 cases bb with
 | true =>
  obtain ⟨r, hg, hra⟩ := hitL_true HC1.out.symm
  have HLF : Hid (leftL a P l = (r.1, P + 1)) := Lib.hid (left_hit hg hra)
  have HPJ : Hid (P ≤ P + 1 ∧ P + 1 ≤ l.length) := Lib.hid (by have := (List.getElem?_eq_some_iff.1 hg).1; omega)
  obtain ⟨r', g, o, hg', hAe, h1, h2⟩ := (HRD.out.below L7.out).at_ (i := P) (by have := HPJ.out; omega)
  obtain rfl : r' = r := by rw [hg] at hg'; injection hg' with hg'; exact hg'.symm
  have g0 : W7.cell? ⟨b2, 0, none⟩ = some (.slice (some ⟨g, o, none⟩) n c) := by rw [← hAe]; exact V2.out.cell 0
  have k0 : W7.cell? ⟨b2 + 1, 0, none⟩ = some (.int .i64 (a : Int)) := V3.out.cell 0
  have kf : W7.frozen? ⟨b2 + 1, 0, none⟩ = false := V3.out.frozen 0
  have i1 : (0 : Int) ≤ (P : Int) := by omega
  have t1 : (P : Int) < (n : Int) := by have := HPJ.out; have := HN.out; omega
  obtain ⟨a1, ha1⟩ : ∃ a1, a1 = r'.1 := ⟨_, rfl⟩
  rw [← ha1] at h1 HLF
  have HAe := Lib.hid hAe
  clear hg hg' hra h2 hAe ha1
  go_upto_region 7 with (fail)
  have ej : (P : Int) + 1 = ((P + 1 : Nat) : Int) := by omega
  rw [ej]
  obtain ⟨j1, hj1⟩ : ∃ j1, j1 = P + 1 := ⟨_, rfl⟩
  rw [← hj1] at HLF HPJ ⊢
  have Z2 : Hid (Blk (W7.setCell ⟨b2 + 1, 0, none⟩ (.int .i64 (a1 : Int))) b2 147 #[.slice A n c, .int .i64 (CT : Int)]) := Lib.hid (V2.out.far (p := ⟨b2 + 1, 0, none⟩) (by simp) _)
  have Z3 : Hid (Blk (W7.setCell ⟨b2 + 1, 0, none⟩ (.int .i64 (a1 : Int))) (b2 + 1) 61 #[.int .i64 (a1 : Int), .int .i64 (b : Int)]) := Lib.hid (V3.out.set_ 0 _)
  have Z4 : Hid (Blk (W7.setCell ⟨b2 + 1, 0, none⟩ (.int .i64 (a1 : Int))) (b2 + 1 + 1) 147 #[.slice none 0 0, .int .i64 0]) := Lib.hid (V4.out.far (p := ⟨b2 + 1, 0, none⟩) (by simp) _)
  have L6 : Hid (Below w.heap.size w (W7.setCell ⟨b2 + 1, 0, none⟩ (.int .i64 (a1 : Int)))) := Lib.hid (L7.out.setCell (p := ⟨b2 + 1, 0, none⟩) (by rw [← HBB.out]; exact Nat.le_succ _) _)
  clear hj1 ej g0 k0 kf i1 t1 h1 V2 V3 V4 L7 HAe HC1
  generalize W7.setCell ⟨b2 + 1, 0, none⟩ (.int .i64 (a1 : Int)) = W6 at *
  have HR6 := Lib.hid (HRD.out.below L6.out)
  have g0 : W6.cell? ⟨b2, 0, none⟩ = some (.slice A n c) := Z2.out.cell 0
  have k1 : W6.cell? ⟨b2 + 1, 1, none⟩ = some (.int .i64 (b : Int)) := Z3.out.cell 1
  go_cut [58] (fun s wx => ∃ bb : Bool, s = .bool bb ∧ Hid (bb = hitR b j1 l) ∧ wx = W6.drew)
  case first =>
   by_cases hlt : j1 < n
   ·obtain ⟨r, g, o, hg, hAe, h1, h2⟩ := HR6.out.at_ (i := j1) (by have := HN.out; omega)
    subst hAe
    have t1 : (j1 : Int) < (n : Int) := by omega
    have i1 : (0 : Int) ≤ (j1 : Int) := by omega
    have hh : Hid (hitR b j1 l = decide (r.1 = b)) := Lib.hid (by unfold hitR; rw [hg])
    obtain ⟨y, hy⟩ : ∃ y, y = r.1 := ⟨_, rfl⟩
    rw [← hy] at h1 hh
    clear hg hy h2
    by_cases hya : y = b
    ·have hb2 : Hid (true = hitR b j1 l) := Lib.hid (by rw [hh.out, decide_eq_true hya])
     subst hya
     go_region
     go_wp2_with fail
     go_meet
     exact ⟨_, rfl, hb2, rfl⟩
    ·have hb2 : Hid (false = hitR b j1 l) := Lib.hid (by rw [hh.out, decide_eq_false hya])
     have t2 : ((y : Int) == (b : Int)) = false := by simp; omega
     have t3 : ¬ ((y : Int) = (b : Int)) := by omega
     go_region
     go_wp2_with fail
     go_meet
     exact ⟨_, rfl, hb2, rfl⟩
   ·have t1 : ¬ ((j1 : Int) < (n : Int)) := by omega
    have hb2 : Hid (false = hitR b j1 l) := Lib.hid (by unfold hitR; rw [List.getElem?_eq_none (by have := HN.out; omega)])
    go_region
    go_wp2_with fail
    go_meet
    exact ⟨_, rfl, hb2, rfl⟩
  case rest =>
  obtain ⟨bb, rfl, HC2, rfl⟩ := hcut
  clear g0 k1
  have V2 := Lib.hid Z2.out.drew
  have V3 := Lib.hid Z3.out.drew
  have V4 := Lib.hid Z4.out.drew
  have L7 := Lib.hid L6.out.drew
  clear Z2 Z3 Z4 L6 HR6
  generalize W6.drew = W7 at *
  cases bb with
  | true =>
   obtain ⟨r, hg, hra⟩ := hitR_true HC2.out.symm
   have HRT : Hid (rightL b j1 l = (r.2, j1 + 1)) := Lib.hid (right_hit hg hra)
   have HP2 : Hid (P ≤ j1 + 1 ∧ j1 + 1 ≤ l.length) := Lib.hid (by have := (List.getElem?_eq_some_iff.1 hg).1; have := HPJ.out; omega)
   obtain ⟨r', g, o, hg', hAe, h1, h2⟩ := (HRD.out.below L7.out).at_ (i := j1) (by have := HP2.out; omega)
   obtain rfl : r' = r := by rw [hg] at hg'; injection hg' with hg'; exact hg'.symm
   have g0 : W7.cell? ⟨b2, 0, none⟩ = some (.slice (some ⟨g, o, none⟩) n c) := by rw [← hAe]; exact V2.out.cell 0
   have k1 : W7.cell? ⟨b2 + 1, 1, none⟩ = some (.int .i64 (b : Int)) := V3.out.cell 1
   have kf : W7.frozen? ⟨b2 + 1, 1, none⟩ = false := V3.out.frozen 1
   have i1 : (0 : Int) ≤ (j1 : Int) := by omega
   have t1 : (j1 : Int) < (n : Int) := by have := HP2.out; have := HN.out; omega
   obtain ⟨b1, hb1⟩ : ∃ b1, b1 = r'.2 := ⟨_, rfl⟩
   rw [← hb1] at h2 HRT
   have HAe := Lib.hid hAe
   clear hg hg' hra h1 hAe hb1
   go_upto_region 10 with (fail)
   have ej : (j1 : Int) + 1 = ((j1 + 1 : Nat) : Int) := by omega
   rw [ej]
   obtain ⟨j2, hj2⟩ : ∃ j2, j2 = j1 + 1 := ⟨_, rfl⟩
   rw [← hj2] at HRT HP2 ⊢
   have U2 : Hid (Blk (W7.setCell ⟨b2 + 1, 1, none⟩ (.int .i64 (b1 : Int))) b2 147 #[.slice A n c, .int .i64 (CT : Int)]) := Lib.hid (V2.out.far (p := ⟨b2 + 1, 1, none⟩) (by simp) _)
   have U3 : Hid (Blk (W7.setCell ⟨b2 + 1, 1, none⟩ (.int .i64 (b1 : Int))) (b2 + 1) 61 #[.int .i64 (a1 : Int), .int .i64 (b1 : Int)]) := Lib.hid (V3.out.set_ 1 _)
   have U4 : Hid (Blk (W7.setCell ⟨b2 + 1, 1, none⟩ (.int .i64 (b1 : Int))) (b2 + 1 + 1) 147 #[.slice none 0 0, .int .i64 0]) := Lib.hid (V4.out.far (p := ⟨b2 + 1, 1, none⟩) (by simp) _)
   have L8 : Hid (Below w.heap.size w (W7.setCell ⟨b2 + 1, 1, none⟩ (.int .i64 (b1 : Int)))) := Lib.hid (L7.out.setCell (p := ⟨b2 + 1, 1, none⟩) (by rw [← HBB.out]; exact Nat.le_succ _) _)
   clear hj2 ej g0 k1 kf i1 t1 h2 V2 V3 V4 L7 HAe HC2
   generalize W7.setCell ⟨b2 + 1, 1, none⟩ (.int .i64 (b1 : Int)) = W8 at *
   obtain ⟨vb, hvb⟩ : ∃ vb, vb = W8.heap.size := ⟨_, rfl⟩
   have L9 : Hid (Below w.heap.size w (W8.alloc (.cells #[.int .i64 (a1 : Int), .int .i64 (b1 : Int)] 61))) := Lib.hid (L8.out.alloc L8.out.size _)
   have D2 := Lib.hid (U2.out.alloc (.cells #[.int .i64 (a1 : Int), .int .i64 (b1 : Int)] 61))
   have D4 := Lib.hid (U4.out.alloc (.cells #[.int .i64 (a1 : Int), .int .i64 (b1 : Int)] 61))
   have PL : Hid (Pl (W8.alloc (.cells #[.int .i64 (a1 : Int), .int .i64 (b1 : Int)] 61)) vb [(a1, b1)]) := Lib.hid (pl_one (r := (a1, b1)) (by rw [hvb]; exact Blk.new _ _ _))
   have lt8 : Hid (w.heap.size ≤ W8.heap.size ∧ b2 + 1 + 1 < W8.heap.size) := Lib.hid ⟨L8.out.size, U4.out.lt⟩
   have g0 : W8.cell? ⟨b2, 0, none⟩ = some (.slice A n c) := U2.out.cell 0
   have k0 : W8.cell? ⟨b2 + 1, 0, none⟩ = some (.int .i64 (a1 : Int)) := U3.out.cell 0
   have k1 : W8.cell? ⟨b2 + 1, 1, none⟩ = some (.int .i64 (b1 : Int)) := U3.out.cell 1
   have HVB := Lib.hid hvb
   go_wp2_with fail
   rw [← hvb]
   obtain ⟨W9, hW9⟩ : ∃ W9, W9 = W8.alloc (.cells #[.int .i64 (a1 : Int), .int .i64 (b1 : Int)] 61) := ⟨_, rfl⟩
   have HS9z : Hid (W9.heap.size = W8.heap.size + 1) := Lib.hid (by rw [hW9]; simp)
   rw [← hW9] at L9 D2 D4 PL ⊢
   clear hW9 hvb U2 U3 U4 L8 g0 k0 k1
   have HOB : Hid (∀ q, (Value.slice A n c).ownBlock = some q → q < w.heap.size) := Lib.hid fun q hq => (HON.out.lt hq).1
   refine (replace_one (w := W9) (base := base) (v := .slice A n c) (l := l) (r := (a1, b1)) (vb := vb) (mc := 1) (i := P) (j := j2) (HON.out.below L9.out (Nat.le_refl _)) (Nat.le_trans hbs L9.out.size) HHN.out PL.out (ob_ne HOB.out (by rw [HVB.out]; exact lt8.out.1)) HP2.out.1 HP2.out.2).mono ?_
   rintro e W10 ⟨v', rfl, ho, hgr, hor⟩
   obtain ⟨A', c', rfl, _, _, _, _⟩ := ho.shape
   have T2 := Lib.hid (D2.out.grown hgr (fun e => ob_ne HOB.out (Nat.le_of_eq HBB.out.symm) e.symm))
   have T4 := Lib.hid (D4.out.grown hgr (fun e => ob_ne HOB.out (Nat.le_trans (Nat.le_of_eq HBB.out.symm) (Nat.le_add_right b2 2)) e.symm))
   have HW : Hid (l.take P ++ ([(a1, b1)] ++ l.drop j2) = WL) := Lib.hid (by rw [HWL.out, HLF.out]; dsimp only; rw [HRT.out]; rfl)
   rw [HW.out] at ho hor ⊢
   obtain ⟨N, hNN⟩ : ∃ N, N = WL.length := ⟨_, rfl⟩
   rw [← hNN] at ho hor ⊢
   have O := Lib.hid (⟨ho, hgr, hor⟩ : _ ∧ _ ∧ _)
   have q0 : W10.cell? ⟨b2, 0, none⟩ = some (.slice A n c) := T2.out.cell 0
   have q1 : W10.cell? ⟨b2, 1, none⟩ = some (.int .i64 (CT : Int)) := T2.out.cell 1
   have qf : W10.frozen? ⟨b2, 0, none⟩ = false := T2.out.frozen 0
   have p0 : W10.cell? ⟨b2 + 1 + 1, 0, none⟩ = some (.slice none 0 0) := T4.out.cell 0
   have p1 : W10.cell? ⟨b2 + 1 + 1, 1, none⟩ = some (.int .i64 0) := T4.out.cell 1
   have pf0 : W10.frozen? ⟨b2 + 1 + 1, 0, none⟩ = false := T4.out.frozen 0
   have pf1 : W10.frozen? ⟨b2 + 1 + 1, 1, none⟩ = false := T4.out.frozen 1
   clear ho hgr hor hNN
   go_wp2_with fail
   have T4' : Blk (((W10.setCell ⟨b2, 0, none⟩ (.slice A' N c')).setCell ⟨b2 + 1 + 1, 0, none⟩ (.slice A' N c')).setCell ⟨b2 + 1 + 1, 1, none⟩ (.int .i64 (CT : Int))) (b2 + 1 + 1) 147 #[.slice A' N c', .int .i64 (CT : Int)] := ((T4.out.far (p := ⟨b2, 0, none⟩) (Nat.ne_of_gt (Nat.lt_of_lt_of_le (Nat.lt_succ_self b2) (Nat.le_succ (b2 + 1)))) _).set_ 0 _).set_ 1 _
   refine bodyPost_ret (results_cell rfl rfl (loadVar_blk T4' Tryz.underlying147 rfl size_part)) rfl ?_
   rw [← HCT.out]
   exact with_end O.out.1 O.out.2.1 O.out.2.2 L9.out HOB.out HBB.out (by rw [HS9z.out]; exact Nat.lt_succ_of_lt lt8.out.2)
  | false =>
   have HRT0 : Hid (rightL b j1 l = (b, j1)) := Lib.hid (right_miss (hitR_false HC2.out.symm))
   go_upto_region 10 with (fail)
   have U2 := V2
   have U3 := V3
   have U4 := V4
   have L8 := L7
   have HRT := HRT0
   have HP2 := HPJ
   clear V2 V3 V4 L7 HC2 HRT0
   generalize W7 = W8 at *
   obtain ⟨vb, hvb⟩ : ∃ vb, vb = W8.heap.size := ⟨_, rfl⟩
   have L9 : Hid (Below w.heap.size w (W8.alloc (.cells #[.int .i64 (a1 : Int), .int .i64 (b : Int)] 61))) := Lib.hid (L8.out.alloc L8.out.size _)
   have D2 := Lib.hid (U2.out.alloc (.cells #[.int .i64 (a1 : Int), .int .i64 (b : Int)] 61))
   have D4 := Lib.hid (U4.out.alloc (.cells #[.int .i64 (a1 : Int), .int .i64 (b : Int)] 61))
   have PL : Hid (Pl (W8.alloc (.cells #[.int .i64 (a1 : Int), .int .i64 (b : Int)] 61)) vb [(a1, b)]) := Lib.hid (pl_one (r := (a1, b)) (by rw [hvb]; exact Blk.new _ _ _))
   have lt8 : Hid (w.heap.size ≤ W8.heap.size ∧ b2 + 1 + 1 < W8.heap.size) := Lib.hid ⟨L8.out.size, U4.out.lt⟩
   have g0 : W8.cell? ⟨b2, 0, none⟩ = some (.slice A n c) := U2.out.cell 0
   have k0 : W8.cell? ⟨b2 + 1, 0, none⟩ = some (.int .i64 (a1 : Int)) := U3.out.cell 0
   have k1 : W8.cell? ⟨b2 + 1, 1, none⟩ = some (.int .i64 (b : Int)) := U3.out.cell 1
   have HVB := Lib.hid hvb
   go_wp2_with fail
   rw [← hvb]
   obtain ⟨W9, hW9⟩ : ∃ W9, W9 = W8.alloc (.cells #[.int .i64 (a1 : Int), .int .i64 (b : Int)] 61) := ⟨_, rfl⟩
   have HS9z : Hid (W9.heap.size = W8.heap.size + 1) := Lib.hid (by rw [hW9]; simp)
   rw [← hW9] at L9 D2 D4 PL ⊢
   clear hW9 hvb U2 U3 U4 L8 g0 k0 k1
   have HOB : Hid (∀ q, (Value.slice A n c).ownBlock = some q → q < w.heap.size) := Lib.hid fun q hq => (HON.out.lt hq).1
   refine (replace_one (w := W9) (base := base) (v := .slice A n c) (l := l) (r := (a1, b)) (vb := vb) (mc := 1) (i := P) (j := j1) (HON.out.below L9.out (Nat.le_refl _)) (Nat.le_trans hbs L9.out.size) HHN.out PL.out (ob_ne HOB.out (by rw [HVB.out]; exact lt8.out.1)) HP2.out.1 HP2.out.2).mono ?_
   rintro e W10 ⟨v', rfl, ho, hgr, hor⟩
   obtain ⟨A', c', rfl, _, _, _, _⟩ := ho.shape
   have T2 := Lib.hid (D2.out.grown hgr (fun e => ob_ne HOB.out (Nat.le_of_eq HBB.out.symm) e.symm))
   have T4 := Lib.hid (D4.out.grown hgr (fun e => ob_ne HOB.out (Nat.le_trans (Nat.le_of_eq HBB.out.symm) (Nat.le_add_right b2 2)) e.symm))
   have HW : Hid (l.take P ++ ([(a1, b)] ++ l.drop j1) = WL) := Lib.hid (by rw [HWL.out, HLF.out]; dsimp only; rw [HRT.out]; rfl)
   rw [HW.out] at ho hor ⊢
   obtain ⟨N, hNN⟩ : ∃ N, N = WL.length := ⟨_, rfl⟩
   rw [← hNN] at ho hor ⊢
   have O := Lib.hid (⟨ho, hgr, hor⟩ : _ ∧ _ ∧ _)
   have q0 : W10.cell? ⟨b2, 0, none⟩ = some (.slice A n c) := T2.out.cell 0
   have q1 : W10.cell? ⟨b2, 1, none⟩ = some (.int .i64 (CT : Int)) := T2.out.cell 1
   have qf : W10.frozen? ⟨b2, 0, none⟩ = false := T2.out.frozen 0
   have p0 : W10.cell? ⟨b2 + 1 + 1, 0, none⟩ = some (.slice none 0 0) := T4.out.cell 0
   have p1 : W10.cell? ⟨b2 + 1 + 1, 1, none⟩ = some (.int .i64 0) := T4.out.cell 1
   have pf0 : W10.frozen? ⟨b2 + 1 + 1, 0, none⟩ = false := T4.out.frozen 0
   have pf1 : W10.frozen? ⟨b2 + 1 + 1, 1, none⟩ = false := T4.out.frozen 1
   clear ho hgr hor hNN
   go_wp2_with fail
   have T4' : Blk (((W10.setCell ⟨b2, 0, none⟩ (.slice A' N c')).setCell ⟨b2 + 1 + 1, 0, none⟩ (.slice A' N c')).setCell ⟨b2 + 1 + 1, 1, none⟩ (.int .i64 (CT : Int))) (b2 + 1 + 1) 147 #[.slice A' N c', .int .i64 (CT : Int)] := ((T4.out.far (p := ⟨b2, 0, none⟩) (Nat.ne_of_gt (Nat.lt_of_lt_of_le (Nat.lt_succ_self b2) (Nat.le_succ (b2 + 1)))) _).set_ 0 _).set_ 1 _
   refine bodyPost_ret (results_cell rfl rfl (loadVar_blk T4' Tryz.underlying147 rfl size_part)) rfl ?_
   rw [← HCT.out]
   exact with_end O.out.1 O.out.2.1 O.out.2.2 L9.out HOB.out HBB.out (by rw [HS9z.out]; exact Nat.lt_succ_of_lt lt8.out.2)
 | false =>
  have HLF : Hid (leftL a P l = (a, P)) := Lib.hid (left_miss (hitL_false HC1.out.symm))
  have HPJ : Hid (P ≤ P ∧ P ≤ l.length) := Lib.hid (by have := HN.out; omega)
  go_upto_region 7 with (fail)
  have Z2 := V2
  have Z3 := V3
  have Z4 := V4
  have L6 := L7
  clear V2 V3 V4 L7 HC1
  generalize W7 = W6 at *
  have HR6 := Lib.hid (HRD.out.below L6.out)
  have g0 : W6.cell? ⟨b2, 0, none⟩ = some (.slice A n c) := Z2.out.cell 0
  have k1 : W6.cell? ⟨b2 + 1, 1, none⟩ = some (.int .i64 (b : Int)) := Z3.out.cell 1
  go_cut [58] (fun s wx => ∃ bb : Bool, s = .bool bb ∧ Hid (bb = hitR b P l) ∧ wx = W6.drew)
  case first =>
   by_cases hlt : P < n
   ·obtain ⟨r, g, o, hg, hAe, h1, h2⟩ := HR6.out.at_ (i := P) (by have := HN.out; omega)
    subst hAe
    have t1 : (P : Int) < (n : Int) := by omega
    have i1 : (0 : Int) ≤ (P : Int) := by omega
    have hh : Hid (hitR b P l = decide (r.1 = b)) := Lib.hid (by unfold hitR; rw [hg])
    obtain ⟨y, hy⟩ : ∃ y, y = r.1 := ⟨_, rfl⟩
    rw [← hy] at h1 hh
    clear hg hy h2
    by_cases hya : y = b
    ·have hb2 : Hid (true = hitR b P l) := Lib.hid (by rw [hh.out, decide_eq_true hya])
     subst hya
     go_region
     go_wp2_with fail
     go_meet
     exact ⟨_, rfl, hb2, rfl⟩
    ·have hb2 : Hid (false = hitR b P l) := Lib.hid (by rw [hh.out, decide_eq_false hya])
     have t2 : ((y : Int) == (b : Int)) = false := by simp; omega
     have t3 : ¬ ((y : Int) = (b : Int)) := by omega
     go_region
     go_wp2_with fail
     go_meet
     exact ⟨_, rfl, hb2, rfl⟩
   ·have t1 : ¬ ((P : Int) < (n : Int)) := by omega
    have hb2 : Hid (false = hitR b P l) := Lib.hid (by unfold hitR; rw [List.getElem?_eq_none (by have := HN.out; omega)])
    go_region
    go_wp2_with fail
    go_meet
    exact ⟨_, rfl, hb2, rfl⟩
  case rest =>
  obtain ⟨bb, rfl, HC2, rfl⟩ := hcut
  clear g0 k1
  have V2 := Lib.hid Z2.out.drew
  have V3 := Lib.hid Z3.out.drew
  have V4 := Lib.hid Z4.out.drew
  have L7 := Lib.hid L6.out.drew
  clear Z2 Z3 Z4 L6 HR6
  generalize W6.drew = W7 at *
  cases bb with
  | true =>
   obtain ⟨r, hg, hra⟩ := hitR_true HC2.out.symm
   have HRT : Hid (rightL b P l = (r.2, P + 1)) := Lib.hid (right_hit hg hra)
   have HP2 : Hid (P ≤ P + 1 ∧ P + 1 ≤ l.length) := Lib.hid (by have := (List.getElem?_eq_some_iff.1 hg).1; have := HPJ.out; omega)
   obtain ⟨r', g, o, hg', hAe, h1, h2⟩ := (HRD.out.below L7.out).at_ (i := P) (by have := HP2.out; omega)
   obtain rfl : r' = r := by rw [hg] at hg'; injection hg' with hg'; exact hg'.symm
   have g0 : W7.cell? ⟨b2, 0, none⟩ = some (.slice (some ⟨g, o, none⟩) n c) := by rw [← hAe]; exact V2.out.cell 0
   have k1 : W7.cell? ⟨b2 + 1, 1, none⟩ = some (.int .i64 (b : Int)) := V3.out.cell 1
   have kf : W7.frozen? ⟨b2 + 1, 1, none⟩ = false := V3.out.frozen 1
   have i1 : (0 : Int) ≤ (P : Int) := by omega
   have t1 : (P : Int) < (n : Int) := by have := HP2.out; have := HN.out; omega
   obtain ⟨b1, hb1⟩ : ∃ b1, b1 = r'.2 := ⟨_, rfl⟩
   rw [← hb1] at h2 HRT
   have HAe := Lib.hid hAe
   clear hg hg' hra h1 hAe hb1
   go_upto_region 10 with (fail)
   have ej : (P : Int) + 1 = ((P + 1 : Nat) : Int) := by omega
   rw [ej]
   obtain ⟨j2, hj2⟩ : ∃ j2, j2 = P + 1 := ⟨_, rfl⟩
   rw [← hj2] at HRT HP2 ⊢
   have U2 : Hid (Blk (W7.setCell ⟨b2 + 1, 1, none⟩ (.int .i64 (b1 : Int))) b2 147 #[.slice A n c, .int .i64 (CT : Int)]) := Lib.hid (V2.out.far (p := ⟨b2 + 1, 1, none⟩) (by simp) _)
   have U3 : Hid (Blk (W7.setCell ⟨b2 + 1, 1, none⟩ (.int .i64 (b1 : Int))) (b2 + 1) 61 #[.int .i64 (a : Int), .int .i64 (b1 : Int)]) := Lib.hid (V3.out.set_ 1 _)
   have U4 : Hid (Blk (W7.setCell ⟨b2 + 1, 1, none⟩ (.int .i64 (b1 : Int))) (b2 + 1 + 1) 147 #[.slice none 0 0, .int .i64 0]) := Lib.hid (V4.out.far (p := ⟨b2 + 1, 1, none⟩) (by simp) _)
   have L8 : Hid (Below w.heap.size w (W7.setCell ⟨b2 + 1, 1, none⟩ (.int .i64 (b1 : Int)))) := Lib.hid (L7.out.setCell (p := ⟨b2 + 1, 1, none⟩) (by rw [← HBB.out]; exact Nat.le_succ _) _)
   clear hj2 ej g0 k1 kf i1 t1 h2 V2 V3 V4 L7 HAe HC2
   generalize W7.setCell ⟨b2 + 1, 1, none⟩ (.int .i64 (b1 : Int)) = W8 at *
   obtain ⟨vb, hvb⟩ : ∃ vb, vb = W8.heap.size := ⟨_, rfl⟩
   have L9 : Hid (Below w.heap.size w (W8.alloc (.cells #[.int .i64 (a : Int), .int .i64 (b1 : Int)] 61))) := Lib.hid (L8.out.alloc L8.out.size _)
   have D2 := Lib.hid (U2.out.alloc (.cells #[.int .i64 (a : Int), .int .i64 (b1 : Int)] 61))
   have D4 := Lib.hid (U4.out.alloc (.cells #[.int .i64 (a : Int), .int .i64 (b1 : Int)] 61))
   have PL : Hid (Pl (W8.alloc (.cells #[.int .i64 (a : Int), .int .i64 (b1 : Int)] 61)) vb [(a, b1)]) := Lib.hid (pl_one (r := (a, b1)) (by rw [hvb]; exact Blk.new _ _ _))
   have lt8 : Hid (w.heap.size ≤ W8.heap.size ∧ b2 + 1 + 1 < W8.heap.size) := Lib.hid ⟨L8.out.size, U4.out.lt⟩
   have g0 : W8.cell? ⟨b2, 0, none⟩ = some (.slice A n c) := U2.out.cell 0
   have k0 : W8.cell? ⟨b2 + 1, 0, none⟩ = some (.int .i64 (a : Int)) := U3.out.cell 0
   have k1 : W8.cell? ⟨b2 + 1, 1, none⟩ = some (.int .i64 (b1 : Int)) := U3.out.cell 1
   have HVB := Lib.hid hvb
   go_wp2_with fail
   rw [← hvb]
   obtain ⟨W9, hW9⟩ : ∃ W9, W9 = W8.alloc (.cells #[.int .i64 (a : Int), .int .i64 (b1 : Int)] 61) := ⟨_, rfl⟩
   have HS9z : Hid (W9.heap.size = W8.heap.size + 1) := Lib.hid (by rw [hW9]; simp)
   rw [← hW9] at L9 D2 D4 PL ⊢
   clear hW9 hvb U2 U3 U4 L8 g0 k0 k1
   have HOB : Hid (∀ q, (Value.slice A n c).ownBlock = some q → q < w.heap.size) := Lib.hid fun q hq => (HON.out.lt hq).1
   refine (replace_one (w := W9) (base := base) (v := .slice A n c) (l := l) (r := (a, b1)) (vb := vb) (mc := 1) (i := P) (j := j2) (HON.out.below L9.out (Nat.le_refl _)) (Nat.le_trans hbs L9.out.size) HHN.out PL.out (ob_ne HOB.out (by rw [HVB.out]; exact lt8.out.1)) HP2.out.1 HP2.out.2).mono ?_
   rintro e W10 ⟨v', rfl, ho, hgr, hor⟩
   obtain ⟨A', c', rfl, _, _, _, _⟩ := ho.shape
   have T2 := Lib.hid (D2.out.grown hgr (fun e => ob_ne HOB.out (Nat.le_of_eq HBB.out.symm) e.symm))
   have T4 := Lib.hid (D4.out.grown hgr (fun e => ob_ne HOB.out (Nat.le_trans (Nat.le_of_eq HBB.out.symm) (Nat.le_add_right b2 2)) e.symm))
   have HW : Hid (l.take P ++ ([(a, b1)] ++ l.drop j2) = WL) := Lib.hid (by rw [HWL.out, HLF.out]; dsimp only; rw [HRT.out]; rfl)
   rw [HW.out] at ho hor ⊢
   obtain ⟨N, hNN⟩ : ∃ N, N = WL.length := ⟨_, rfl⟩
   rw [← hNN] at ho hor ⊢
   have O := Lib.hid (⟨ho, hgr, hor⟩ : _ ∧ _ ∧ _)
   have q0 : W10.cell? ⟨b2, 0, none⟩ = some (.slice A n c) := T2.out.cell 0
   have q1 : W10.cell? ⟨b2, 1, none⟩ = some (.int .i64 (CT : Int)) := T2.out.cell 1
   have qf : W10.frozen? ⟨b2, 0, none⟩ = false := T2.out.frozen 0
   have p0 : W10.cell? ⟨b2 + 1 + 1, 0, none⟩ = some (.slice none 0 0) := T4.out.cell 0
   have p1 : W10.cell? ⟨b2 + 1 + 1, 1, none⟩ = some (.int .i64 0) := T4.out.cell 1
   have pf0 : W10.frozen? ⟨b2 + 1 + 1, 0, none⟩ = false := T4.out.frozen 0
   have pf1 : W10.frozen? ⟨b2 + 1 + 1, 1, none⟩ = false := T4.out.frozen 1
   clear ho hgr hor hNN
   go_wp2_with fail
   have T4' : Blk (((W10.setCell ⟨b2, 0, none⟩ (.slice A' N c')).setCell ⟨b2 + 1 + 1, 0, none⟩ (.slice A' N c')).setCell ⟨b2 + 1 + 1, 1, none⟩ (.int .i64 (CT : Int))) (b2 + 1 + 1) 147 #[.slice A' N c', .int .i64 (CT : Int)] := ((T4.out.far (p := ⟨b2, 0, none⟩) (Nat.ne_of_gt (Nat.lt_of_lt_of_le (Nat.lt_succ_self b2) (Nat.le_succ (b2 + 1)))) _).set_ 0 _).set_ 1 _
   refine bodyPost_ret (results_cell rfl rfl (loadVar_blk T4' Tryz.underlying147 rfl size_part)) rfl ?_
   rw [← HCT.out]
   exact with_end O.out.1 O.out.2.1 O.out.2.2 L9.out HOB.out HBB.out (by rw [HS9z.out]; exact Nat.lt_succ_of_lt lt8.out.2)
  | false =>
   have HRT0 : Hid (rightL b P l = (b, P)) := Lib.hid (right_miss (hitR_false HC2.out.symm))
   go_upto_region 10 with (fail)
   have U2 := V2
   have U3 := V3
   have U4 := V4
   have L8 := L7
   have HRT := HRT0
   have HP2 := HPJ
   clear V2 V3 V4 L7 HC2 HRT0
   generalize W7 = W8 at *
   obtain ⟨vb, hvb⟩ : ∃ vb, vb = W8.heap.size := ⟨_, rfl⟩
   have L9 : Hid (Below w.heap.size w (W8.alloc (.cells #[.int .i64 (a : Int), .int .i64 (b : Int)] 61))) := Lib.hid (L8.out.alloc L8.out.size _)
   have D2 := Lib.hid (U2.out.alloc (.cells #[.int .i64 (a : Int), .int .i64 (b : Int)] 61))
   have D4 := Lib.hid (U4.out.alloc (.cells #[.int .i64 (a : Int), .int .i64 (b : Int)] 61))
   have PL : Hid (Pl (W8.alloc (.cells #[.int .i64 (a : Int), .int .i64 (b : Int)] 61)) vb [(a, b)]) := Lib.hid (pl_one (r := (a, b)) (by rw [hvb]; exact Blk.new _ _ _))
   have lt8 : Hid (w.heap.size ≤ W8.heap.size ∧ b2 + 1 + 1 < W8.heap.size) := Lib.hid ⟨L8.out.size, U4.out.lt⟩
   have g0 : W8.cell? ⟨b2, 0, none⟩ = some (.slice A n c) := U2.out.cell 0
   have k0 : W8.cell? ⟨b2 + 1, 0, none⟩ = some (.int .i64 (a : Int)) := U3.out.cell 0
   have k1 : W8.cell? ⟨b2 + 1, 1, none⟩ = some (.int .i64 (b : Int)) := U3.out.cell 1
   have HVB := Lib.hid hvb
   go_wp2_with fail
   rw [← hvb]
   obtain ⟨W9, hW9⟩ : ∃ W9, W9 = W8.alloc (.cells #[.int .i64 (a : Int), .int .i64 (b : Int)] 61) := ⟨_, rfl⟩
   have HS9z : Hid (W9.heap.size = W8.heap.size + 1) := Lib.hid (by rw [hW9]; simp)
   rw [← hW9] at L9 D2 D4 PL ⊢
   clear hW9 hvb U2 U3 U4 L8 g0 k0 k1
   have HOB : Hid (∀ q, (Value.slice A n c).ownBlock = some q → q < w.heap.size) := Lib.hid fun q hq => (HON.out.lt hq).1
   refine (replace_one (w := W9) (base := base) (v := .slice A n c) (l := l) (r := (a, b)) (vb := vb) (mc := 1) (i := P) (j := P) (HON.out.below L9.out (Nat.le_refl _)) (Nat.le_trans hbs L9.out.size) HHN.out PL.out (ob_ne HOB.out (by rw [HVB.out]; exact lt8.out.1)) HP2.out.1 HP2.out.2).mono ?_
   rintro e W10 ⟨v', rfl, ho, hgr, hor⟩
   obtain ⟨A', c', rfl, _, _, _, _⟩ := ho.shape
   have T2 := Lib.hid (D2.out.grown hgr (fun e => ob_ne HOB.out (Nat.le_of_eq HBB.out.symm) e.symm))
   have T4 := Lib.hid (D4.out.grown hgr (fun e => ob_ne HOB.out (Nat.le_trans (Nat.le_of_eq HBB.out.symm) (Nat.le_add_right b2 2)) e.symm))
   have HW : Hid (l.take P ++ ([(a, b)] ++ l.drop P) = WL) := Lib.hid (by rw [HWL.out, HLF.out]; dsimp only; rw [HRT.out]; rfl)
   rw [HW.out] at ho hor ⊢
   obtain ⟨N, hNN⟩ : ∃ N, N = WL.length := ⟨_, rfl⟩
   rw [← hNN] at ho hor ⊢
   have O := Lib.hid (⟨ho, hgr, hor⟩ : _ ∧ _ ∧ _)
   have q0 : W10.cell? ⟨b2, 0, none⟩ = some (.slice A n c) := T2.out.cell 0
   have q1 : W10.cell? ⟨b2, 1, none⟩ = some (.int .i64 (CT : Int)) := T2.out.cell 1
   have qf : W10.frozen? ⟨b2, 0, none⟩ = false := T2.out.frozen 0
   have p0 : W10.cell? ⟨b2 + 1 + 1, 0, none⟩ = some (.slice none 0 0) := T4.out.cell 0
   have p1 : W10.cell? ⟨b2 + 1 + 1, 1, none⟩ = some (.int .i64 0) := T4.out.cell 1
   have pf0 : W10.frozen? ⟨b2 + 1 + 1, 0, none⟩ = false := T4.out.frozen 0
   have pf1 : W10.frozen? ⟨b2 + 1 + 1, 1, none⟩ = false := T4.out.frozen 1
   clear ho hgr hor hNN
   go_wp2_with fail
   have T4' : Blk (((W10.setCell ⟨b2, 0, none⟩ (.slice A' N c')).setCell ⟨b2 + 1 + 1, 0, none⟩ (.slice A' N c')).setCell ⟨b2 + 1 + 1, 1, none⟩ (.int .i64 (CT : Int))) (b2 + 1 + 1) 147 #[.slice A' N c', .int .i64 (CT : Int)] := ((T4.out.far (p := ⟨b2, 0, none⟩) (Nat.ne_of_gt (Nat.lt_of_lt_of_le (Nat.lt_succ_self b2) (Nat.le_succ (b2 + 1)))) _).set_ 0 _).set_ 1 _
   refine bodyPost_ret (results_cell rfl rfl (loadVar_blk T4' Tryz.underlying147 rfl size_part)) rfl ?_
   rw [← HCT.out]
   exact with_end O.out.1 O.out.2.1 O.out.2.2 L9.out HOB.out HBB.out (by rw [HS9z.out]; exact Nat.lt_succ_of_lt lt8.out.2)
end Sp
end Go.Proofs.YtgbehfkimchglaaGreatDoor
