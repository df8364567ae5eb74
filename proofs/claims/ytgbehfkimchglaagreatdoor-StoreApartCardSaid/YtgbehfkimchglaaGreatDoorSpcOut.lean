/-
 '(part).without' by a contract. Conditions: the ranges rise and are short; all cells of the range that is struck are in it.
-/
import Derived.Test.YtgbehfkimchglaaGreatDoorSpcWith
namespace Go.Proofs.YtgbehfkimchglaaGreatDoor
open Go Go.RowKit
set_option maxRecDepth 100000
set_option linter.unusedVariables false
namespace Sp
theorem sub_run (c : Nat) (a b : Nat) (hab : a < b) (h1 : c ≤ 1000000) (h2 : b - a ≤ c) (w : World) : (binOp .sub 3 (.int .i64 (c : Int)) (.int .i64 ((b : Int) - (a : Int)))).run Tryz.prog w = .ok (.int .i64 ((c - (b - a) : Nat) : Int)) w := by
 rw [show binOp .sub 3 (.int .i64 (c : Int)) (.int .i64 ((b : Int) - (a : Int))) = pure (.int .i64 (IntKind.i64.wrap ((c : Int) - ((b : Int) - (a : Int))))) from rfl, IntKind.wrap_i64]
 rw [show ((c : Int) - ((b : Int) - (a : Int)) + 9223372036854775808) % 18446744073709551616 - 9223372036854775808 = ((c - (b - a) : Nat) : Int) by omega]
 rfl
def restI (x y a b : Nat) : Nat → List Rg
 | 0 => []
 | 1 => if x < a then [(x, a)] else []
 | _ => restL x y a b
def restP (x b i : Nat) : Nat := if i = 0 then x else b
def restQ (a y i : Nat) : Nat := if i = 0 then a else y
theorem restI_yes {x y a b i : Nat} (hi : i < 2) (h : restP x b i < restQ a y i) : restI x y a b (i + 1) = restI x y a b i ++ [(restP x b i, restQ a y i)] := by
 match i with
 | 0 => exact if_pos h
 | 1 => show restL x y a b = _; unfold restL; rw [if_pos (c := b < y) h]; rfl
theorem restI_no {x y a b i : Nat} (hi : i < 2) (h : ¬ restP x b i < restQ a y i) : restI x y a b (i + 1) = restI x y a b i := by
 match i with
 | 0 => exact if_neg h
 | 1 => show restL x y a b = _; unfold restL; rw [if_neg (c := b < y) h, List.append_nil]; rfl
theorem restI_len (x y a b : Nat) : ∀ i, (restI x y a b i).length ≤ 2
 | 0 => Nat.zero_le 2
 | 1 => by show (if x < a then [(x, a)] else []).length ≤ 2; split <;> simp
 | _ + 2 => by
  show (restL x y a b).length ≤ 2
  unfold restL
  by_cases h1 : x < a
  ·by_cases h2 : b < y
   ·rw [if_pos h1, if_pos h2]; exact Nat.le_refl _
   ·rw [if_pos h1, if_neg h2]; exact Nat.le_succ _
  ·by_cases h2 : b < y
   ·rw [if_neg h1, if_pos h2]; exact Nat.le_succ _
   ·rw [if_neg h1, if_neg h2]; exact Nat.zero_le _
theorem Own.put {w : World} {base g : Nat} {v : Value} {d : List Rg} (h : Own w base v d) (hg : g < base) : Put w g v d.length d := by
 rcases h with ⟨rfl, rfl⟩ | ⟨q, c, cur, rfl, h1, h2, h3, h4, h5, h6⟩
 ·exact ⟨rfl, .inl ⟨rfl, rfl⟩⟩
 ·refine ⟨rfl, .inr ⟨q, c, rfl, by omega, cur, h2, fun j v hj => ?_⟩⟩
  have := (List.getElem?_eq_some_iff.1 hj).1
  rw [rcells_length] at this
  rw [h6 j this]
  exact hj
set_option maxHeartbeats 6400000 in
theorem without_rg (w : World) (base : Nat) (v : Value) (l : List Rg) (cnt a b : Nat) (h : Own w base v l) (hbs : base ≤ w.heap.size) (hn : l.length ≤ 100000) (hcnt : cnt ≤ 1000000) (hle : b - a ≤ cnt) (hab : a < b) (hbm : b ≤ 1000000) {lo0 : Nat} (hr : Ris lo0 l) (hH : hasL a b l = true) (hs : ∀ r ∈ l, r.2 ≤ 1000000) :
  Calls Tryz.prog 163 #[.agg #[v, .int .i64 (cnt : Int)], .agg #[.int .i64 (a : Int), .int .i64 (b : Int)]] w fun e w' => ∃ v', e = .returned (.agg #[v', .int .i64 ((cnt - (b - a) : Nat) : Int)]) ∧ PartPost w base v (outL a b l) v' w' := by
 obtain ⟨A, c, rfl, hRd, hlc, hcm, hAc⟩ := h.shape
 obtain ⟨b2, hb2⟩ : ∃ b2, b2 = w.heap.size := ⟨_, rfl⟩
 obtain ⟨W, hW⟩ : ∃ W, W = ((w.alloc (.cells #[.slice A l.length c, .int .i64 (cnt : Int)] 147)).alloc (.cells #[.int .i64 (a : Int), .int .i64 (b : Int)] 61)).alloc (.cells #[.slice none 0 0, .int .i64 0] 147) := ⟨_, rfl⟩
 have hs1 : (w.alloc (.cells #[.slice A l.length c, .int .i64 (cnt : Int)] 147)).heap.size = b2 + 1 := by rw [hb2]; simp
 have hs2 : ((w.alloc (.cells #[.slice A l.length c, .int .i64 (cnt : Int)] 147)).alloc (.cells #[.int .i64 (a : Int), .int .i64 (b : Int)] 61)).heap.size = b2 + 1 + 1 := by rw [hb2]; simp
 have hb : Below w.heap.size w W := by rw [hW]; exact (((Below.refl _ _).alloc (Nat.le_refl _) _).alloc (by rw [hs1]; omega) _).alloc (by rw [hs2]; omega) _
 have X2 : Blk W b2 147 #[.slice A l.length c, .int .i64 (cnt : Int)] := by rw [hW, hb2]; exact ((Blk.new _ _ _).alloc _).alloc _
 have X3 : Blk W (b2 + 1) 61 #[.int .i64 (a : Int), .int .i64 (b : Int)] := by
  have h := (Blk.new (w.alloc (.cells #[.slice A l.length c, .int .i64 (cnt : Int)] 147)) 61 #[.int .i64 (a : Int), .int .i64 (b : Int)]).alloc (.cells #[.slice none 0 0, .int .i64 0] 147)
  rw [hs1, ← hW] at h
  exact h
 have X4 : Blk W (b2 + 1 + 1) 147 #[.slice none 0 0, .int .i64 0] := by
  have h := Blk.new ((w.alloc (.cells #[.slice A l.length c, .int .i64 (cnt : Int)] 147)).alloc (.cells #[.int .i64 (a : Int), .int .i64 (b : Int)] 61)) 147 #[.slice none 0 0, .int .i64 0]
  rw [hs2, ← hW] at h
  exact h
 have HO := Lib.hid h
 have HRD := Lib.hid hRd
 have L1 := Lib.hid hb
 have B2 := Lib.hid X2
 have B3 := Lib.hid X3
 have B4 := Lib.hid X4
 have HLC := Lib.hid hlc
 have HCM := Lib.hid hcm
 have HBB := Lib.hid hb2
 have HRI := Lib.hid hr
 have HHN := Lib.hid hn
 obtain ⟨rr, hrr, hra, hrb⟩ : ∃ r, l[pos b l]? = some r ∧ r.1 ≤ a ∧ b ≤ r.2 := by
  unfold hasL at hH
  cases e : l[pos b l]? with
  | none => rw [e] at hH; cases hH
  | some r =>
   rw [e] at hH
   obtain ⟨r', e', hb'⟩ := (hr.pos_eq (x := b) (pos b l)).2 ⟨(List.getElem?_eq_some_iff.1 e).1, Nat.le_refl _⟩
   rw [e] at e'
   injection e' with e'
   exact ⟨r, rfl, of_decide_eq_true hH, by rw [e']; exact of_decide_eq_true hb'⟩
 have HG := Lib.hid (⟨hrr, hra, hrb, hs rr (List.mem_of_getElem? hrr)⟩ : l[pos b l]? = some rr ∧ rr.1 ≤ a ∧ b ≤ rr.2 ∧ rr.2 ≤ 1000000)
 have HWL : Hid (outL a b l = l.take (pos b l) ++ (restL rr.1 rr.2 a b ++ l.drop (pos b l + 1))) := Lib.hid (by unfold outL; rw [hrr])
 obtain ⟨WL, hWL⟩ : ∃ WL, WL = outL a b l := ⟨_, rfl⟩
 rw [← hWL] at HWL ⊢
 have hpn := pos_le b l
 have HAB := Lib.hid hab
 have HBM := Lib.hid hbm
 have HLE := Lib.hid hle
 obtain ⟨n, hnn⟩ : ∃ n, n = l.length := ⟨_, rfl⟩
 have HN := Lib.hid hnn
 have HON : Hid (Own w base (.slice A n c) l) := Lib.hid (by rw [hnn]; exact h)
 rw [← hnn] at B2 hW hpn hlc hn ⊢
 clear hb X2 X3 X4 h hRd hr hs1 hs2 hWL hnn hcm hrr hra hrb hs hH hle
 go_enter Tryz.func163, Tryz.ntmps163
 go_upto_region 1 with (fail)
 rw [← hW, ← HBB.out]
 clear hW hb2
 have HS := Lib.hid (⟨B2.out.drew, B3.out.drew⟩ : Blk W.drew b2 147 #[.slice A n c, .int .i64 (cnt : Int)] ∧ Blk W.drew (b2 + 1) 61 #[.int .i64 (a : Int), .int .i64 (b : Int)])
 refine region_anyZ (fun w' => Blk w' b2 147 #[.slice A n c, .int .i64 (cnt : Int)] ∧ Blk w' (b2 + 1) 61 #[.int .i64 (a : Int), .int .i64 (b : Int)]) 6 (by kernel_rfl) ?_
 refine takeG 0 (.fieldAddr 147 (.tmp 2) 1) (some 10) none (.pointer (some ⟨b2, 1, none⟩)) (by kernel_rfl) (by kernel_rfl) (by kernel_rfl) (fun _ _ _ h => h) (fun o wq e hS => exec_field (u := .pointer (some ⟨b2, 0, none⟩)) wq e (by kernel_rfl) (by kernel_rfl)) HS.out ?_
 refine takeG 1 (.load 3 (.tmp 10)) (some 11) none (.int .i64 (cnt : Int)) (by kernel_rfl) (by kernel_rfl) (by kernel_rfl) (fun _ _ _ h => h) (fun o wq e hS => exec_load (x := (.tmp 10)) e (by kernel_rfl) (load_one Tryz.underlying3 (by kernel_rfl) (hS.1.cell 1))) HS.out ?_
 refine takeG 2 (.load 61 (.tmp 3)) (some 12) none (.agg #[.int .i64 (a : Int), .int .i64 (b : Int)]) (by kernel_rfl) (by kernel_rfl) (by kernel_rfl) (fun _ _ _ h => h) (fun o wq e hS => exec_load (x := (.tmp 3)) e (by kernel_rfl) (load_range hS.2)) HS.out ?_
 refine loneG 3 (.call ⟨.value (.func 164), #[(.tmp 12)], #[61]⟩) (some 13) none (by kernel_rfl) (by kernel_rfl) (by kernel_rfl) ?_
 intro o ho hod
 refine wp_callC (f := 164) (args := #[.agg #[.int .i64 (a : Int), .int .i64 (b : Int)]]) (by cases o; cases ho; kernel_rfl) (size_rg _ a b (by have := HAB.out; have := HBM.out; omega) HBM.out) ?_
 rintro e W4 ⟨rfl, b4⟩
 refine ⟨.int .i64 ((b : Int) - (a : Int)), rfl, ?_⟩
 rw [hod]
 clear hod ho
 have HS9 := Lib.hid (⟨Blk_new HS.out.1 b4, Blk_new HS.out.2 b4⟩ : Blk W4 b2 147 #[.slice A n c, .int .i64 (cnt : Int)] ∧ Blk W4 (b2 + 1) 61 #[.int .i64 (a : Int), .int .i64 (b : Int)])
 have HB4 := Lib.hid (Blk_new B4.out.drew b4)
 have L4 := Lib.hid (L1.out.drew.trans (b4.mono L1.out.drew.size))
 clear b4 L1 B2 B3 HS
 refine ⟨fun _ => HS9.out, ?_⟩
 refine takeG 4 (.binOp .sub 3 (.tmp 11) (.tmp 13) 3) (some 14) none (.int .i64 ((cnt - (b - a) : Nat) : Int)) (by kernel_rfl) (by kernel_rfl) (by kernel_rfl) (fun _ _ _ h => h) (fun o wq e hS => exec_bin (u1 := .int .i64 (cnt : Int)) (u2 := .int .i64 ((b : Int) - (a : Int))) wq e (by kernel_rfl) (by kernel_rfl) (eqG_int ..) (sub_run cnt a b HAB.out hcnt HLE.out _)) HS9.out ?_
 refine takeG 5 (.fieldAddr 147 (.tmp 2) 1) (some 15) none (.pointer (some ⟨b2, 1, none⟩)) (by kernel_rfl) (by kernel_rfl) (by kernel_rfl) (fun _ _ _ h => h) (fun o wq e hS => exec_field (u := .pointer (some ⟨b2, 0, none⟩)) wq e (by kernel_rfl) (by kernel_rfl)) HS9.out ?_
 refine lastStore 6 3 (.tmp 15) (.tmp 14) (.pointer (some ⟨b2, 1, none⟩)) (.int .i64 ((cnt - (b - a) : Nat) : Int)) _ (by kernel_rfl) (by kernel_rfl) (by kernel_rfl) rfl (by kernel_rfl) (by kernel_rfl) (store_one size_int rfl rfl (by rw [HS9.out.1.cell 1]; rfl) (HS9.out.1.frozen 1) (by rw [add_plain])) ?_
 simp only [put_some, put_none, List.setIfInBounds_toArray, List.set_cons_succ, List.set_cons_zero]
 have Y2 : Hid (Blk (W4.setCell ⟨b2, 1, none⟩ (.int .i64 ((cnt - (b - a) : Nat) : Int))) b2 147 #[.slice A n c, .int .i64 ((cnt - (b - a) : Nat) : Int)]) := Lib.hid (HS9.out.1.set_ 1 _)
 have Y3 : Hid (Blk (W4.setCell ⟨b2, 1, none⟩ (.int .i64 ((cnt - (b - a) : Nat) : Int))) (b2 + 1) 61 #[.int .i64 (a : Int), .int .i64 (b : Int)]) := Lib.hid (HS9.out.2.far (p := ⟨b2, 1, none⟩) (by simp) _)
 have Y4 : Hid (Blk (W4.setCell ⟨b2, 1, none⟩ (.int .i64 ((cnt - (b - a) : Nat) : Int))) (b2 + 1 + 1) 147 #[.slice none 0 0, .int .i64 0]) := Lib.hid (HB4.out.far (p := ⟨b2, 1, none⟩) (by show b2 + 1 + 1 ≠ b2; omega) _)
 have L5 : Hid (Below w.heap.size w (W4.setCell ⟨b2, 1, none⟩ (.int .i64 ((cnt - (b - a) : Nat) : Int)))) := Lib.hid (L4.out.setCell (p := ⟨b2, 1, none⟩) (by rw [← HBB.out]; exact Nat.le_refl _) _)
 obtain ⟨CT, hCT⟩ : ∃ CT, CT = cnt - (b - a) := ⟨_, rfl⟩
 rw [← hCT] at Y2 Y3 Y4 L5 ⊢
 have HCT := Lib.hid hCT
 generalize W4.setCell ⟨b2, 1, none⟩ (.int .i64 (CT : Int)) = W5 at *
 clear hCT HS9 HB4 L4 B4
 have HE := Lib.hid (ending_rg W5 A l c b (CT : Int) (HRD.out.below L5.out) HHN.out HRI.out)
 obtain ⟨P, hP⟩ : ∃ P, P = pos b l := ⟨_, rfl⟩
 rw [← hP] at HE HWL HG hpn
 rw [← HN.out] at HE
 have d0 : W5.cell? ⟨b2, 0, none⟩ = some (.slice A n c) := Y2.out.cell 0
 have d1 : W5.cell? ⟨b2, 1, none⟩ = some (.int .i64 (CT : Int)) := Y2.out.cell 1
 have f1 : W5.cell? ⟨b2 + 1, 1, none⟩ = some (.int .i64 (b : Int)) := Y3.out.cell 1
 clear hP
 go_wp2_with fail
 refine HE.out.mono ?_
 rintro e W6 ⟨rfl, b6⟩
 have lt6 : b2 + 1 + 1 < W5.heap.size := Y4.out.lt
 have Z2 := Lib.hid (Y2.out.below b6 (by omega))
 have Z3 := Lib.hid (Y3.out.below b6 (by omega))
 have Z4 := Lib.hid (Y4.out.below b6 lt6)
 have L6 := Lib.hid (L5.out.trans (b6.mono L5.out.size))
 clear b6 HE Y2 Y3 Y4 L5 d0 d1 f1 lt6
 have hPl : P < l.length := (List.getElem?_eq_some_iff.1 HG.out.1).1
 obtain ⟨r, g, o, hg, hAe, h1, h2⟩ := (HRD.out.below L6.out).at_ (i := P) hPl
 obtain rfl : r = rr := by have := HG.out.1; rw [hg] at this; injection this
 subst hAe
 obtain ⟨x, hx⟩ : ∃ x, x = r.1 := ⟨_, rfl⟩
 obtain ⟨y, hy⟩ : ∃ y, y = r.2 := ⟨_, rfl⟩
 rw [← hx] at h1
 rw [← hy] at h2
 have HX : Hid (x ≤ a ∧ b ≤ y ∧ y ≤ 1000000) := Lib.hid (by rw [hx, hy]; exact HG.out.2)
 rw [← hx, ← hy] at HWL
 have t1 : (P : Int) < (n : Int) := by have := HN.out; omega
 have i1 : (0 : Int) ≤ (P : Int) := by omega
 have HPL : Hid (P < l.length) := Lib.hid hPl
 clear hx hy hg HG hPl
 have g0 : W6.cell? ⟨b2, 0, none⟩ = some (.slice (some ⟨g, o, none⟩) n c) := Z2.out.cell 0
 have k0 : W6.cell? ⟨b2 + 1, 0, none⟩ = some (.int .i64 (a : Int)) := Z3.out.cell 0
 have k1 : W6.cell? ⟨b2 + 1, 1, none⟩ = some (.int .i64 (b : Int)) := Z3.out.cell 1
 go_upto_region 4 with (fail)
 obtain ⟨wb, hwb⟩ : ∃ wb, wb = W6.heap.size := ⟨_, rfl⟩
 rw [← hwb]
 have s6 := L6.out.size
 have lt6 : Hid (b2 + 1 + 1 < wb) := Lib.hid (by rw [hwb]; exact Z4.out.lt)
 have hgw : Hid (g < w.heap.size) := Lib.hid ((HON.out.lt rfl).1)
 obtain ⟨W7, hW7⟩ : ∃ W7, W7 = W6.alloc (.cells #[.int .i64 (x : Int), .int .i64 (y : Int)] 61) := ⟨_, rfl⟩
 have hs7 : W7.heap.size = wb + 1 := by rw [hW7, hwb]; simp
 have V2 := Lib.hid (Z2.out.alloc (.cells #[.int .i64 (x : Int), .int .i64 (y : Int)] 61))
 have V3 := Lib.hid (Z3.out.alloc (.cells #[.int .i64 (x : Int), .int .i64 (y : Int)] 61))
 have V4 := Lib.hid (Z4.out.alloc (.cells #[.int .i64 (x : Int), .int .i64 (y : Int)] 61))
 have V5 : Hid (Blk W7 wb 61 #[.int .i64 (x : Int), .int .i64 (y : Int)]) := Lib.hid (by rw [hW7, hwb]; exact Blk.new _ _ _)
 have L7 := Lib.hid (L6.out.alloc s6 (.cells #[.int .i64 (x : Int), .int .i64 (y : Int)] 61))
 rw [← hW7] at V2 V3 V4 L7 ⊢
 have HS7 := Lib.hid hs7
 have HWB : Hid (w.heap.size ≤ wb) := Lib.hid (by rw [hwb]; exact s6)
 clear Z2 Z3 Z4 L6 hW7 hwb s6 h1 h2 g0 k0 k1 t1 i1 hs7
 have k0 : W7.cell? ⟨b2 + 1, 0, none⟩ = some (.int .i64 (a : Int)) := V3.out.cell 0
 have k1 : W7.cell? ⟨b2 + 1, 1, none⟩ = some (.int .i64 (b : Int)) := V3.out.cell 1
 have k2 : W7.cell? ⟨wb, 0, none⟩ = some (.int .i64 (x : Int)) := V5.out.cell 0
 have k3 : W7.cell? ⟨wb, 1, none⟩ = some (.int .i64 (y : Int)) := V5.out.cell 1
 go_wp2_with fail
 obtain ⟨ab, hab2⟩ : ∃ ab, ab = W7.heap.size := ⟨_, rfl⟩
 rw [← hab2]
 obtain ⟨W8, hW8⟩ : ∃ W8, W8 = W7.alloc (.cells #[.int .i64 (x : Int), .int .i64 (a : Int), .int .i64 (b : Int), .int .i64 (y : Int)] 61) := ⟨_, rfl⟩
 have s7 := L7.out.size
 have hs8 : W8.heap.size = ab + 1 := by rw [hW8, hab2]; simp
 have U2 := Lib.hid (V2.out.alloc (.cells #[.int .i64 (x : Int), .int .i64 (a : Int), .int .i64 (b : Int), .int .i64 (y : Int)] 61))
 have U4 := Lib.hid (V4.out.alloc (.cells #[.int .i64 (x : Int), .int .i64 (a : Int), .int .i64 (b : Int), .int .i64 (y : Int)] 61))
 have U6 : Hid (Blk W8 ab 61 #[.int .i64 (x : Int), .int .i64 (a : Int), .int .i64 (b : Int), .int .i64 (y : Int)]) := Lib.hid (by rw [hW8, hab2]; exact Blk.new _ _ _)
 have L8 := Lib.hid (L7.out.alloc s7 (.cells #[.int .i64 (x : Int), .int .i64 (a : Int), .int .i64 (b : Int), .int .i64 (y : Int)] 61))
 rw [← hW8] at U2 U4 L8 ⊢
 obtain ⟨rb, hrb⟩ : ∃ rb, rb = W8.heap.size := ⟨_, rfl⟩
 have HRB : Hid (rb = W8.heap.size ∧ rb = ab + 1 ∧ w.heap.size ≤ ab ∧ b2 + 1 + 1 < rb) := Lib.hid (by rw [hrb]; exact ⟨rfl, hs8, by rw [hab2]; exact s7, U4.out.lt⟩)
 have HAR : Hid (∀ i, i < 2 → W8.cell? ⟨ab, i * 2, none⟩ = some (.int .i64 ((restP x b i : Nat) : Int)) ∧ W8.cell? ⟨ab, i * 2 + 1, none⟩ = some (.int .i64 ((restQ a y i : Nat) : Int))) := Lib.hid fun i hi => by
  match i with
  | 0 => exact ⟨U6.out.cell 0, U6.out.cell 1⟩
  | 1 => exact ⟨U6.out.cell 2, U6.out.cell 3⟩
 have HPQ : Hid (∀ i, restP x b i ≤ 1000000 ∧ restQ a y i ≤ 1000000) := Lib.hid fun i => by
  have := HX.out
  have := HAB.out
  have := HBM.out
  unfold restP restQ
  split <;> omega
 clear V2 V3 V4 V5 L7 hW8 hs8 s7 hab2 hrb k0 k1 k2 k3 U6 HS7
 go_loopw [7, 37] (fun rv s wr => ∃ i : Nat, i ≤ 2 ∧ s = .int .i64 (i : Int) ∧ Hid (Own wr rb rv (restI x y a b i)) ∧ Hid (Below rb W8 wr)) (fun _ s _ => 2 - (intOf s).toNat)
 case atStart => exact ⟨0, by omega, rfl, Lib.hid (Own.nil _ _), Lib.hid (Below.refl _ _)⟩
 case round =>
  obtain ⟨i, hi, rfl, HO7, L0⟩ := hrel
  rename_i rv wr
  by_cases hlt : i < 2
  ·have i1 : (i : Int) < 2 := by omega
   have ltab : ab < W8.heap.size := by rw [← HRB.out.1, HRB.out.2.1]; exact Nat.lt_succ_self _
   have ltr : ab < rb := by rw [HRB.out.2.1]; exact Nat.lt_succ_self _
   have c1 := (L0.out.cell (p := ⟨ab, i * 2, none⟩) ltr).trans (HAR.out i hlt).1
   have c2 := (L0.out.cell (p := ⟨ab, i * 2 + 1, none⟩) ltr).trans (HAR.out i hlt).2
   have hb9 := HPQ.out i
   have HY : Hid ((restP x b i < restQ a y i → restI x y a b (i + 1) = restI x y a b i ++ [(restP x b i, restQ a y i)]) ∧ (¬ restP x b i < restQ a y i → restI x y a b (i + 1) = restI x y a b i)) := Lib.hid ⟨restI_yes hlt, restI_no hlt⟩
   obtain ⟨p, hp⟩ : ∃ p, p = restP x b i := ⟨_, rfl⟩
   obtain ⟨q, hq⟩ : ∃ q, q = restQ a y i := ⟨_, rfl⟩
   rw [← hp] at c1 hb9 HY
   rw [← hq] at c2 hb9 HY
   have hb91 := hb9.1
   have hb92 := hb9.2
   have hsr : Hid (rb ≤ wr.heap.size) := Lib.hid (by have := L0.out.size; rw [← HRB.out.1] at this; exact this)
   clear hb9 hp hq ltab ltr
   go_wp2_with fail
   refine (size_rg _ p q hb91 hb92).mono ?_
   rintro e w2 ⟨rfl, b7⟩
   have hz0 : (wr.alloc (.cells #[.int .i64 (p : Int), .int .i64 (q : Int)] 61)).heap.size = wr.heap.size + 1 := by simp
   have L2 : Hid (Below wr.heap.size wr w2) := Lib.hid (((Below.refl _ wr).alloc (Nat.le_refl _) _).trans (b7.mono (by rw [hz0]; exact Nat.le_succ _)))
   have B7 := Lib.hid ((Blk.new wr 61 #[.int .i64 (p : Int), .int .i64 (q : Int)]).below b7 (by rw [hz0]; exact Nat.lt_succ_self _))
   have d0 : w2.cell? ⟨wr.heap.size, 0, none⟩ = some (.int .i64 (p : Int)) := B7.out.cell 0
   have d1 : w2.cell? ⟨wr.heap.size, 1, none⟩ = some (.int .i64 (q : Int)) := B7.out.cell 1
   have L3 : Hid (Below rb W8 w2) := Lib.hid (L0.out.trans (L2.out.mono hsr.out))
   clear b7 hz0 B7 c1 c2
   by_cases hpq : p < q
   ·have t1 : (0 : Int) < (q : Int) - (p : Int) := by omega
    have L4 : Hid (Below wr.heap.size wr (w2.alloc (.cells #[.int .i64 (p : Int), .int .i64 (q : Int)] 61))) := Lib.hid (L2.out.alloc L2.out.size _)
    have HH := Lib.hid (HO7.out.below L4.out (Nat.le_refl _))
    have HS : Hid (Sr (w2.alloc (.cells #[.int .i64 (p : Int), .int .i64 (q : Int)] 61)) (.slice (some ⟨w2.heap.size, 0, none⟩) 1 1) [(p, q)]) := Lib.hid ((pl_one (r := (p, q)) (Blk.new _ _ _)).sr rfl)
    have HSZ : Hid ((restI x y a b i).length + [(p, q)].length ≤ 1000000) := Lib.hid (by have := restI_len x y a b i; show (restI x y a b i).length + 1 ≤ _; omega)
    have HB : Hid (rb ≤ (w2.alloc (.cells #[.int .i64 (p : Int), .int .i64 (q : Int)] 61)).heap.size) := Lib.hid (Nat.le_trans hsr.out L4.out.size)
    have L5 : Hid (Below rb W8 (w2.alloc (.cells #[.int .i64 (p : Int), .int .i64 (q : Int)] 61))) := Lib.hid (L0.out.trans (L4.out.mono hsr.out))
    have HOL : Hid (∀ k, Value.ownBlock _ = some k → rb ≤ k) := Lib.hid (fun k hk => (HO7.out.lt hk).2)
    have HY2 := Lib.hid (HY.out.1 hpq)
    clear HY L4 L0 L2 L3
    go_wp2_with (at_builtin; refine wpList_append_rg rfl (.tmp 44) (.tmp 46) rfl rfl rfl HH.out HS.out HSZ.out HB.out ?_; intro v' w' ho hg hor; refine unhid ?_)
    refine Lib.hid ?_
    have O := Lib.hid (⟨ho, hg⟩ : _ ∧ _)
    clear ho hg hor
    go_wp2_with fail
    go_roundw
    case rel => exact ⟨i + 1, by omega, by go_num, Lib.hid (by rw [HY2.out]; exact O.out.1), Lib.hid (L5.out.grown O.out.2 HB.out HOL.out)⟩
    case measure => simp [intOf]; omega
   ·have t1 : ¬ ((0 : Int) < (q : Int) - (p : Int)) := by omega
    have HH := Lib.hid (HO7.out.below L2.out (Nat.le_refl _))
    have HY2 := Lib.hid (HY.out.2 hpq)
    clear HY L0 L2
    go_wp2_with fail
    go_roundw
    case rel => exact ⟨i + 1, by omega, by go_num, Lib.hid (by rw [HY2.out]; exact HH.out), L3⟩
    case measure => simp [intOf]; omega
  ·obtain rfl : i = 2 := by omega
   have D2 : Hid (Blk wr b2 147 #[.slice (some ⟨g, o, none⟩) n c, .int .i64 (CT : Int)]) := Lib.hid (U2.out.below (L0.out.mono (by rw [HRB.out.1]; exact Nat.le_refl _)) U2.out.lt)
   have D4 : Hid (Blk wr (b2 + 1 + 1) 147 #[.slice none 0 0, .int .i64 0]) := Lib.hid (U4.out.below (L0.out.mono (by rw [HRB.out.1]; exact Nat.le_refl _)) U4.out.lt)
   have hwr : Hid (w.heap.size ≤ rb ∧ rb ≤ wr.heap.size) := Lib.hid ⟨by rw [HRB.out.1]; exact L8.out.size, by have := L0.out.size; rw [← HRB.out.1] at this; exact this⟩
   have L9 : Hid (Below w.heap.size w wr) := Lib.hid (L8.out.trans (L0.out.mono hwr.out.1))
   have HOB : Hid (∀ q, (Value.slice (some ⟨g, o, none⟩) n c).ownBlock = some q → q < w.heap.size) := Lib.hid fun q hq => (HON.out.lt hq).1
   have HRP := Lib.hid (replace_out (w := wr) (base := base) (l := l) (i := P) (HON.out.below L9.out (Nat.le_refl _)) (Nat.le_trans hbs L9.out.size) HHN.out (fun g hg => HO7.out.put (Nat.lt_of_lt_of_le (HOB.out g hg) hwr.out.1)) (restI_len x y a b 2) HPL.out)
   have HLT9 : Hid (b2 + 1 + 1 < wr.heap.size) := Lib.hid (Nat.lt_of_lt_of_le HRB.out.2.2.2 hwr.out.2)
   have d0 : wr.cell? ⟨b2, 0, none⟩ = some (.slice (some ⟨g, o, none⟩) n c) := D2.out.cell 0
   clear HAR HPQ U2 U4 L8 L0 HO7
   go_wp2_with fail
   rw [show (P : Int) + 1 = ((P + 1 : Nat) : Int) from rfl]
   refine HRP.out.mono ?_
   rintro e W10 ⟨v', rfl, ho, hgr, hor⟩
   obtain ⟨A', c', rfl, _, _, _, _⟩ := ho.shape
   have T2 := Lib.hid (D2.out.grown hgr (fun e => ob_ne HOB.out (Nat.le_of_eq HBB.out.symm) e.symm))
   have T4 := Lib.hid (D4.out.grown hgr (fun e => ob_ne HOB.out (Nat.le_trans (Nat.le_of_eq HBB.out.symm) (Nat.le_add_right b2 2)) e.symm))
   have HW : Hid (l.take P ++ (restI x y a b 2 ++ l.drop (P + 1)) = WL) := Lib.hid HWL.out.symm
   rw [HW.out] at ho hor ⊢
   obtain ⟨N, hNN⟩ : ∃ N, N = WL.length := ⟨_, rfl⟩
   rw [← hNN] at ho hor ⊢
   have O := Lib.hid (⟨ho, hgr, hor⟩ : _ ∧ _ ∧ _)
   have q0 : W10.cell? ⟨b2, 0, none⟩ = some (.slice (some ⟨g, o, none⟩) n c) := T2.out.cell 0
   have q1 : W10.cell? ⟨b2, 1, none⟩ = some (.int .i64 (CT : Int)) := T2.out.cell 1
   have qf : W10.frozen? ⟨b2, 0, none⟩ = false := T2.out.frozen 0
   have p0 : W10.cell? ⟨b2 + 1 + 1, 0, none⟩ = some (.slice none 0 0) := T4.out.cell 0
   have p1 : W10.cell? ⟨b2 + 1 + 1, 1, none⟩ = some (.int .i64 0) := T4.out.cell 1
   have pf0 : W10.frozen? ⟨b2 + 1 + 1, 0, none⟩ = false := T4.out.frozen 0
   have pf1 : W10.frozen? ⟨b2 + 1 + 1, 1, none⟩ = false := T4.out.frozen 1
   clear ho hgr hor hNN HRP d0
   go_wp2_with fail
   have T4' : Blk (((W10.setCell ⟨b2, 0, none⟩ (.slice A' N c')).setCell ⟨b2 + 1 + 1, 0, none⟩ (.slice A' N c')).setCell ⟨b2 + 1 + 1, 1, none⟩ (.int .i64 (CT : Int))) (b2 + 1 + 1) 147 #[.slice A' N c', .int .i64 (CT : Int)] := ((T4.out.far (p := ⟨b2, 0, none⟩) (Nat.ne_of_gt (Nat.lt_of_lt_of_le (Nat.lt_succ_self b2) (Nat.le_succ (b2 + 1)))) _).set_ 0 _).set_ 1 _
   refine bodyPost_ret (results_cell rfl rfl (loadVar_blk T4' Tryz.underlying147 rfl size_part)) rfl ?_
   rw [← HCT.out]
   exact with_end O.out.1 O.out.2.1 O.out.2.2 L9.out HOB.out HBB.out HLT9.out
end Sp
end Go.Proofs.YtgbehfkimchglaaGreatDoor
