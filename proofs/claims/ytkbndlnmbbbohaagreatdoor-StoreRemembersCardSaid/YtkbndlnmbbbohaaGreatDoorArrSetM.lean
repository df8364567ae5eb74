/-
 Sets of numbers picked one by one: what 'array.anySet' asks, as mathematics; and an append that may share the row's room. No conditions beyond those that each theorem types.
-/
import Derived.Test.YtkbndlnmbbbohaaGreatDoorArrRebM
namespace Go.Proofs.YtkbndlnmbbbohaaGreatDoor
open Go Go.RowKit
set_option maxRecDepth 100000
set_option linter.unusedVariables false
namespace Arr
def anyP (F : List Nat → Bool) : List Nat → Nat → List Nat → Bool
 | [], 0, p => F p
 | [], _ + 1, _ => false
 | _ :: _, 0, p => F p
 | x :: xs, n + 1, p => anyP F xs n (p ++ [x]) || anyP F xs (n + 1) p
section
variable {F : List Nat → Bool}
theorem anyP_zero (l p : List Nat) : anyP F l 0 p = F p := by cases l <;> rfl
theorem anyP_drop {l : List Nat} {i x : Nat} (h : l[i]? = some x) (n : Nat) (p : List Nat) : anyP F (l.drop i) (n + 1) p = (anyP F (l.drop (i + 1)) n (p ++ [x]) || anyP F (l.drop (i + 1)) (n + 1) p) := by
 obtain ⟨hi, rfl⟩ := List.getElem?_eq_some_iff.1 h
 rw [List.drop_eq_getElem_cons hi]
 rfl
def OkSub (l : List Nat) (n : Nat) (p q : List Nat) : Prop := ∃ t, q = p ++ t ∧ t.length = n ∧ t.Sublist l
theorem OkSub.zero (l p : List Nat) : OkSub l 0 p p := ⟨[], by simp, rfl, List.nil_sublist l⟩
theorem OkSub.more {l p q : List Nat} {i x n : Nat} (hx : l[i]? = some x) (h : OkSub (l.drop (i + 1)) n (p ++ [x]) q) : OkSub l (n + 1) p q := by
 obtain ⟨t, e, hl, hs⟩ := h
 obtain ⟨hi, rfl⟩ := List.getElem?_eq_some_iff.1 hx
 refine ⟨l[i] :: t, by rw [e]; simp, by simp [hl], ?_⟩
 have h2 : (l[i] :: t).Sublist (l.drop i) := by
  rw [List.drop_eq_getElem_cons hi]
  exact hs.cons_cons _
 exact h2.trans (List.drop_sublist i l)
end
section
variable {w : World} {base : Nat} {v : Value} {l : List Nat}
theorem appP (h : Nr.OwnN w base v l) (x : Nat) (hl : l.length ≤ 1000) (hb : base ≤ w.heap.size) (ty : TypeId) :
  ∃ v' w', (Builtin.append_ #[22, 22] ty #[v, .slice (some ⟨w.heap.size, 0, none⟩) 1 1]).run Tryz.prog (w.alloc (.cells #[.int .i64 (x : Int)] 3)) = .ok v' w' ∧ Nr.OwnN w' base v' (l ++ [x]) ∧ Below base w w' ∧ GrowB v v' w w' ∧
   (∀ W, Nr.OwnN W base v' (l ++ [x]) → (∀ g, v.ownBlock = some g → v'.ownBlock ≠ some g → W.heap[g]? = w'.heap[g]?) → Nr.OwnN w' base v l → Nr.OwnN W base v l) ∧ Nr.OwnN w' base v l := by
 obtain ⟨v', w', e1, e2, e3, e4⟩ := appN h x (by omega) hb ty
 obtain ⟨i0, hi', hz0, hz1, hz2⟩ : ∃ i0, Tryz.prog.info? 3 = some i0 ∧ i0.zero = some (.int .i64 0) ∧ i0.size = 1 ∧ i0.bytes = 8 := info_parts Ir.info_int
 have hB2 : Below w.heap.size w (w.alloc (.cells #[.int .i64 (x : Int)] 3)) := (Below.refl _ _).alloc (Nat.le_refl _) _
 have ha := h.below hB2 (Nat.le_refl _)
 rcases ha.2 with ⟨rfl, hz⟩ | ⟨g, cap, cur, rfl, hbg, hg, hnc, hcm, hcs, htake⟩
 ·have : l = [] := List.eq_nil_of_length_eq_zero hz
  subst this
  exact ⟨v', w', e1, e2, e3, e4, fun W _ _ _ => Gr.OwnG.nil _ _, Gr.OwnG.nil _ _⟩
 ·rw [Nat.mul_one] at hcs htake
  have hone : ∀ u ∈ Nr.csN x, u.oneCell' = true := fun u hu => by simp [Nr.csN] at hu; subst hu; rfl
  have hnews : ∀ j u, (Nr.csN x)[j]? = some u → (w.alloc (.cells #[.int .i64 (x : Int)] 3)).cell? ((⟨w.heap.size, 0, none⟩ : Addr).add j) = some u := fun j u hu => by
   have := Gr.one_cells (cs := Nr.csN) x w 3 j u (by simpa using hu)
   exact this
  by_cases hroom : l.length + 1 ≤ cap
  ·have hr := run_append_room (P := Tryz.prog) (w.alloc (.cells #[.int .i64 (x : Int)] 3)) 22 ty 3 i0 Tryz.underlying22 hi' g l.length cap cur hg ⟨w.heap.size, 0, none⟩ 1 1 (Nr.csN x) (by rw [hz1]; rfl) hnews hone hroom (by rw [hz1, Nat.mul_one, hcs]; exact hroom)
   have e := hr.symm.trans e1
   injection e with e5 e6
   subst e5
   have back : ∀ W, Nr.OwnN W base (.slice (some ⟨g, 0, none⟩) (l.length + 1) cap) (l ++ [x]) → Nr.OwnN W base (.slice (some ⟨g, 0, none⟩) l.length cap) l := fun W ho => by
    refine ⟨h.1, .inr ?_⟩
    rcases ho.2 with ⟨e, _⟩ | ⟨g', cap', cur', e, f1, f2, f3, f4, f5, f6⟩
    ·cases e
    ·injection e with e7 e8 e9
     injection e7 with e7
     injection e7 with e7
     subst e7 e9
     refine ⟨g, cap, cur', rfl, f1, f2, by omega, f4, f5, ?_⟩
     rw [Nat.mul_one] at f6 ⊢
     have h1 : cur'.toList.take l.length = (cur'.toList.take (l ++ [x]).length).take l.length := by
      rw [List.take_take, List.length_append]
      congr 1
      simp
     rw [h1, f6, List.flatMap_append, List.take_append_of_le_length (by rw [Gr.flat_length (cs := Nr.csN) (k := 1) (fun _ => rfl)]; omega), List.take_of_length_le (by rw [Gr.flat_length (cs := Nr.csN) (k := 1) (fun _ => rfl)]; omega)]
   exact ⟨_, w', e1, e2, e3, e4, fun W ho _ _ => back W ho, back w' e2⟩
  ·have holds : ∀ j u, (l.flatMap Nr.csN)[j]? = some u → (w.alloc (.cells #[.int .i64 (x : Int)] 3)).cell? ((⟨g, 0, none⟩ : Addr).add j) = some u := ha.cells (g := g) rfl
   have hr := run_append_grow (P := Tryz.prog) (w.alloc (.cells #[.int .i64 (x : Int)] 3)) 22 ty 3 i0 (.int .i64 0) Tryz.underlying22 hi' hz0 ⟨g, 0, none⟩ l.length cap (l.flatMap Nr.csN) (by rw [hz1]; exact ha.1) holds ⟨w.heap.size, 0, none⟩ 1 1 (Nr.csN x) (by rw [hz1]; rfl) hnews (by omega) (by omega) (growslice_fits (by omega) (by rw [hz2]; omega))
   have e := hr.symm.trans e1
   injection e with e5 e6
   subst e5
   have hgl : g < w.heap.size := (h.lt rfl).1
   have hown : Nr.OwnN w' base (.slice (some ⟨g, 0, none⟩) l.length cap) l := by
    rw [← e6]
    refine ha.keep fun g' hg' => ?_
    cases hg'
    have : g < (w.alloc (.cells #[.int .i64 (x : Int)] 3)).heap.size := by simp; omega
    exact Below.heap_alloc (w.alloc (.cells #[.int .i64 (x : Int)] 3)).drew _ g this
   refine ⟨_, w', e1, e2, e3, e4, fun W _ hk ho => ho.keep fun g' hg' => ?_, hown⟩
   exact hk g' hg' (by cases hg'; simp [Value.ownBlock]; omega)
end
end Arr
end Go.Proofs.YtkbndlnmbbbohaaGreatDoor
namespace Go.Proofs.YtkbndlnmbbbohaaGreatDoor
open Go Go.RowKit
set_option maxRecDepth 100000
set_option linter.unusedVariables false
namespace Arr
def Up (m0 : Nat) (w w' : World) : Prop := w.heap.size ≤ w'.heap.size ∧ ∀ g, m0 ≤ g → g < w.heap.size → w'.heap[g]? = w.heap[g]?
structure FitsC (m0 M : Nat) (I : World → Prop) (F : List Nat → Bool) (J : List Nat → World → Prop) (lb : Array Value) : Prop where
 size : ∀ w, I w → m0 ≤ w.heap.size
 keep : ∀ w w', I w → Below m0 w w' → I w'
 call : ∀ w v p, I w → Sq.Ints w.heap.size w v (Sq.ints p) → p.length ≤ M → Calls Tryz.prog 76 (#[v] ++ lb) w fun e w' => e = .returned (.bool (F p)) ∧ I w' ∧ Up m0 w w' ∧ (F p = true → J p w')
theorem slice_tailI (b o n c lo : Nat) (h : lo ≤ n) (W : World) :
  (Instr.sliceAt 22 (.slice (some ⟨b, o, none⟩) n c) (some (.int .i64 (lo : Int))) none none).run Tryz.prog W = .ok (.slice (some ⟨b, o + (if c = lo then 0 else lo), none⟩) (n - lo) (c - lo)) W := by
 have hu : Tryz.prog.underlying 22 = some (.slice (Tryz.prog.elem 22)) := by kernel_rfl
 have he : Tryz.prog.elem 22 = 3 := by kernel_rfl
 rw [run_sliceAt_slice (P := Tryz.prog) (w := W) (h := hu), run_slice_l (P := Tryz.prog) (w := W) 22 _ n c hu .i64 (lo : Int) (by omega) (by omega), he, Nr.sizeOf_int]
 by_cases e : c = lo
 ·subst e; simp [sliced]
 ·simp [sliced, e, add_plain]
theorem addA (k : Nat) (h : k ≤ 1000000) (w : World) : (binOp .add 3 (.int .i64 (k : Int)) (.int .i64 1)).run Tryz.prog w = .ok (.int .i64 ((k + 1 : Nat) : Int)) w := by
 rw [show binOp .add 3 (.int .i64 (k : Int)) (.int .i64 1) = pure (.int .i64 (IntKind.i64.wrap ((k : Int) + 1))) from rfl, IntWalk.i64_in _ (by omega)]
 rfl
theorem subA (k : Nat) (h : k ≤ 1000000) (w : World) : (binOp .sub 3 (.int .i64 ((k + 1 : Nat) : Int)) (.int .i64 1)).run Tryz.prog w = .ok (.int .i64 (k : Int)) w := by
 rw [show binOp .sub 3 (.int .i64 ((k + 1 : Nat) : Int)) (.int .i64 1) = pure (.int .i64 (IntKind.i64.wrap (((k + 1 : Nat) : Int) - 1))) from rfl, IntWalk.i64_in _ (by omega), show ((k + 1 : Nat) : Int) - 1 = (k : Int) by omega]
 rfl
section
variable {m0 : Nat} {I : World → Prop} {F : List Nat → Bool} {J : List Nat → World → Prop} {lb : Array Value}
def SetPost (m0 : Nat) (I : World → Prop) (F : List Nat → Bool) (J : List Nat → World → Prop) (fs : List Nat) (n : Nat) (p : List Nat) (v : Value) (base : Nat) (w : World) (e : Ending) (w' : World) : Prop :=
 e = .returned (.bool (anyP F fs n p)) ∧ I w' ∧ Nr.OwnN w' base v p ∧ w.heap.size ≤ w'.heap.size ∧ (∀ g, m0 ≤ g → g < w.heap.size → v.ownBlock ≠ some g → w'.heap[g]? = w.heap[g]?) ∧ (anyP F fs n p = true → ∃ q, F q = true ∧ OkSub fs n p q ∧ J q w')
set_option maxHeartbeats 6400000 in
theorem anySet_any {M : Nat} (hM3 : M ≤ 3) (hF : FitsC m0 M I F J lb) : ∀ (n : Nat) (w : World) (A : Option Addr) (fs : List Nat) (c : Nat) (v : Value) (p : List Nat) (base : Nat), I w → m0 ≤ base → base ≤ w.heap.size → Nr.OwnN w base v p → fs.length ≤ 100 → fs.length ≤ c → c ≤ maxLen → p.length + n ≤ M → (∀ W, I W → ∀ (j x : Nat), fs[j]? = some x → ∃ b o, A = some ⟨b, o, none⟩ ∧ W.cell? ⟨b, o + j, none⟩ = some (.int .i64 (x : Int))) →
  Calls Tryz.prog 81 #[.slice A fs.length c, .int .i64 (n : Int), v, .func (.func 76) #[] lb] w (SetPost m0 I F J fs n p v base w) := by
 intro n
 induction n with
 | zero =>
  intro w A fs c v p base hI hm hb hO hfl hfc hcm hn hfr
  have HO := Lib.hid hO
  have HM := Lib.hid hm
  have HCL := Lib.hid (hF.call w v p hI (Sq.own_ints hO) (by omega))
  have HZ : Hid (anyP F fs 0 p = F p) := Lib.hid (anyP_zero fs p)
  unfold SetPost
  rw [HZ.out]
  clear hI hO hfr
  go_enter Tryz.func81, Tryz.ntmps81
  go_wp2_with fail
  refine HCL.out.mono ?_
  rintro e w2 ⟨rfl, h1, h2, h3⟩
  have H := Lib.hid (⟨h1, h2, h3⟩ : _ ∧ _ ∧ _)
  clear h1 h2 h3
  go_wp2_with fail
  go_ret
  refine ⟨rfl, H.out.1, HO.out.keep fun g hg => ?_, H.out.2.1.1, fun g h1 h2 _ => H.out.2.1.2 g h1 h2, fun h => ⟨p, h, OkSub.zero fs p, H.out.2.2 h⟩⟩
  have := HO.out.lt hg
  exact H.out.2.1.2 g (by have := HM.out; omega) this.1
 | succ n ih =>
  intro w A fs c v p base hI hm hb hO hfl hfc hcm hn hfr
  have IH := Lib.hid ih
  clear ih
  have HI := Lib.hid hI
  have HO := Lib.hid hO
  have HM := Lib.hid (⟨hm, hb, hcm⟩ : _ ∧ _ ∧ _)
  have HF := Lib.hid hF
  have HFR := Lib.hid hfr
  obtain ⟨N, hN⟩ : ∃ N, N = n + 1 := ⟨_, rfl⟩
  have HN := Lib.hid hN
  rw [← hN]
  have hN3 : N ≤ 3 := by omega
  have hN1 : 1 ≤ N := by omega
  generalize hL : fs.length = L at *
  have HL := Lib.hid hL
  clear hI hm hb hO hF hfr hN hL hcm
  go_enter Tryz.func81, Tryz.ntmps81
  go_wp2_with fail
  go_loopw [18] (fun y wr => ∃ i : Nat, i ≤ L ∧ y = .int .i64 (i : Int) ∧ Hid (I wr) ∧ Hid (Nr.OwnN wr base v p) ∧ Hid (w.heap.size ≤ wr.heap.size) ∧ Hid (∀ g, m0 ≤ g → g < w.heap.size → v.ownBlock ≠ some g → wr.heap[g]? = w.heap[g]?) ∧ Hid (anyP F fs (n + 1) p = anyP F (fs.drop i) (n + 1) p)) (fun y _ => L - (intOf y).toNat)
  case atStart => exact ⟨0, Nat.zero_le _, rfl, HI, HO, Lib.hid (Nat.le_refl _), Lib.hid fun _ _ _ _ => rfl, Lib.hid rfl⟩
  case round =>
   obtain ⟨i, hi, rfl, HI, HO, HS, HB, HP⟩ := hrel
   by_cases hlt : i < L
   ·have hx : fs[i]? = some (fs[i]'(by have := HL.out; omega)) := List.getElem?_eq_getElem _
    generalize fs[i]'(by have := HL.out; omega) = x at hx
    obtain ⟨b, o, hA, p1⟩ := HFR.out wr HI.out i x hx
    have HX := Lib.hid hx
    clear hx
    subst hA
    go_wp2_with fail
    obtain ⟨o2, ho2⟩ : ∃ o2, o2 = o + (if c = i + 1 then 0 else i + 1) := ⟨_, rfl⟩
    have hst : ∀ W, (Instr.sliceAt 22 (.slice (some ⟨b, o, none⟩) L c) (some (.int .i64 ((i + 1 : Nat) : Int))) none none).run Tryz.prog W = .ok (.slice (some ⟨b, o2, none⟩) (L - (i + 1)) (c - (i + 1))) W := fun W => by rw [ho2]; exact slice_tailI b o L c (i + 1) (by omega) W
    have HO2 := Lib.hid ho2
    clear ho2
    refine region_anyZ (fun _ => True) 12 (by kernel_rfl) ?_
    refine takeG 0 (.move (.tmp 0)) (some 23) none (.slice (some ⟨b, o, none⟩) L c) (by kernel_rfl) (by kernel_rfl) (by kernel_rfl) (fun _ _ _ h => h) (fun o' wq e hS => exec_move wq e (by kernel_rfl)) trivial ?_
    refine takeG 1 (.move (.tmp 9)) (some 24) none (.int .i64 (i : Int)) (by kernel_rfl) (by kernel_rfl) (by kernel_rfl) (fun _ _ _ h => h) (fun o' wq e hS => exec_move wq e (by kernel_rfl)) trivial ?_
    refine takeG 2 (.binOp .add 3 (.tmp 24) (.const (.int .i64 1)) 3) (some 25) none (.int .i64 ((i + 1 : Nat) : Int)) (by kernel_rfl) (by kernel_rfl) (by kernel_rfl) (fun _ _ _ h => h) (fun o' wq e hS => exec_bin (u1 := .int .i64 (i : Int)) (u2 := (.int .i64 1)) wq e (by kernel_rfl) (by kernel_rfl) (eqG_int ..) (addA i (by omega) _)) trivial ?_
    refine takeG 3 (.slice 22 (.tmp 23) (.some (.tmp 25)) .none .none) (some 26) none (.slice (some ⟨b, o2, none⟩) (L - (i + 1)) (c - (i + 1))) (by kernel_rfl) (by kernel_rfl) (by kernel_rfl) (fun _ _ _ h => h) (fun o' wq e hS => exec_slice (u := .slice (some ⟨b, o, none⟩) L c) wq e (by kernel_rfl) (by kernel_rfl) (by kernel_rfl) (by kernel_rfl) (hst _)) trivial ?_
    refine takeG 4 (.move (.tmp 1)) (some 27) none (.int .i64 (N : Int)) (by kernel_rfl) (by kernel_rfl) (by kernel_rfl) (fun _ _ _ h => h) (fun o' wq e hS => exec_move wq e (by kernel_rfl)) trivial ?_
    refine takeG 5 (.binOp .sub 3 (.tmp 27) (.const (.int .i64 1)) 3) (some 28) none (.int .i64 (n : Int)) (by kernel_rfl) (by kernel_rfl) (by kernel_rfl) (fun _ _ _ h => h) (fun o' wq e hS => exec_bin (u1 := .int .i64 (N : Int)) (u2 := (.int .i64 1)) wq e (by kernel_rfl) (by kernel_rfl) (eqG_int ..) (by rw [HN.out]; exact subA n (by omega) _)) trivial ?_
    refine takeG 6 (.move (.tmp 2)) (some 29) none (v) (by kernel_rfl) (by kernel_rfl) (by kernel_rfl) (fun _ _ _ h => h) (fun o' wq e hS => exec_move wq e (by kernel_rfl)) trivial ?_
    refine takeG 7 (.move (.tmp 10)) (some 30) none (.int .i64 (x : Int)) (by kernel_rfl) (by kernel_rfl) (by kernel_rfl) (fun _ _ _ h => h) (fun o' wq e hS => exec_move wq e (by kernel_rfl)) trivial ?_
    refine takeG 10 (.move (.tmp 3)) (some 33) none (.func (.func 76) #[] lb) (by kernel_rfl) (by kernel_rfl) (by kernel_rfl) (fun _ _ _ h => h) (fun o' wq e hS => exec_move wq e (by kernel_rfl)) trivial ?_
    refine loneG 8 (.buildSlice 22 1 #[(0, (.tmp 30))]) (some 31) none (by kernel_rfl) (by kernel_rfl) (by kernel_rfl) ?_
    intro o' ho hod
    refine wp_val (exec_buildSlice1 ho (by kernel_rfl) (Nr.bs_int (x : Int) _)) ?_
    rw [hod]
    clear hod ho
    refine ⟨fun _ => trivial, ?_⟩
    refine loneG 9 (.call ⟨.builtin .append, #[(.tmp 29), (.tmp 31)], #[22, 22]⟩) (some 32) none (by kernel_rfl) (by kernel_rfl) (by kernel_rfl) ?_
    intro o' ho hod
    obtain ⟨v2, w2, hrun, h2a, h2b, h2c, h2d, h2e⟩ := appP (w := wr.drew) (HO.out.keep fun _ _ => rfl) x (by omega) (Nat.le_trans HM.out.2.1 HS.out) o'.type
    refine Gr.wp_append 22 (.tmp 29) (.tmp 31) ho (by kernel_rfl) (by kernel_rfl) hrun ?_
    rw [hod]
    clear hod ho hrun
    refine ⟨fun _ => trivial, ?_⟩
    have I2 : Hid (I w2) := Lib.hid (HF.out.keep wr w2 HI.out (((Below.refl base wr).drew.trans h2b).mono HM.out.1))
    have HIH : Hid (Calls Tryz.prog 81 #[.slice (some ⟨b, o2, none⟩) (L - (i + 1)) (c - (i + 1)), .int .i64 (n : Int), v2, .func (.func 76) #[] lb] w2 (SetPost m0 I F J (fs.drop (i + 1)) n (p ++ [x]) v2 base w2)) := Lib.hid (by
     have hld : (fs.drop (i + 1)).length = L - (i + 1) := by rw [List.length_drop, HL.out]
     have h := IH.out w2 (some ⟨b, o2, none⟩) (fs.drop (i + 1)) (c - (i + 1)) v2 (p ++ [x]) base I2.out HM.out.1 (Nat.le_trans (Nat.le_trans HM.out.2.1 HS.out) h2b.size) h2a (by omega) (by omega) (by have := HM.out.2.2; omega) (by rw [List.length_append, List.length_singleton]; omega) (fun W hW j y hy => by
      rw [List.getElem?_drop] at hy
      obtain ⟨b', o', e, hc⟩ := HFR.out W hW (i + 1 + j) y hy
      injection e with e
      injection e with e1 e2
      subst e1 e2
      have hj := (List.getElem?_eq_some_iff.1 hy).1
      rw [HL.out] at hj
      have e3 : o2 = o + (i + 1) := by rw [HO2.out, if_neg (by omega)]
      rw [e3]
      exact ⟨b, o + (i + 1), rfl, by rw [show o + (i + 1) + j = o + (i + 1 + j) by omega]; exact hc⟩)
     rw [hld] at h
     exact h)
    have H2 := Lib.hid (⟨h2a, h2b, h2c, h2d, h2e⟩ : _ ∧ _ ∧ _ ∧ _ ∧ _)
    clear h2a h2b h2c h2d h2e
    refine loneG 11 (.call ⟨.value (.func 81), #[(.tmp 26), (.tmp 28), (.tmp 32), (.tmp 33)], #[22, 3, 22, 62]⟩) (some 34) none (by kernel_rfl) (by kernel_rfl) (by kernel_rfl) ?_
    intro o' ho hod
    refine wp_callC (f := 81) (args := #[.slice (some ⟨b, o2, none⟩) (L - (i + 1)) (c - (i + 1)), .int .i64 (n : Int), v2, .func (.func 76) #[] lb]) (by cases o'; cases ho; kernel_rfl) HIH.out ?_
    rintro e w3 ⟨rfl, h3a, h3b, h3c, h3d, h3e⟩
    refine ⟨_, rfl, ?_⟩
    rw [hod]
    clear hod ho
    refine ⟨fun _ => trivial, AnyZ.done (by kernel_rfl) ?_⟩
    have I3 : Hid (I w3) := Lib.hid h3a
    have O3 : Hid (Nr.OwnN w3 base v p) := Lib.hid (H2.out.2.2.2.1 w3 h3b (fun g hg hne => h3d g (by have := (HO.out.lt hg).2; have := HM.out.1; omega) (Nat.lt_of_lt_of_le (HO.out.lt hg).1 H2.out.2.1.size) hne) H2.out.2.2.2.2)
    have S3 : Hid (w.heap.size ≤ w3.heap.size) := Lib.hid (Nat.le_trans HS.out (Nat.le_trans H2.out.2.1.size h3c))
    have B3 : Hid (∀ g, m0 ≤ g → g < w.heap.size → v.ownBlock ≠ some g → w3.heap[g]? = w.heap[g]?) := Lib.hid fun g hg hl hne => by
     have hlr : g < wr.heap.size := Nat.lt_of_lt_of_le hl HS.out
     have h1 := H2.out.2.2.1.2.1 g hlr hne
     refine (h3d g hg (Nat.lt_of_lt_of_le hlr H2.out.2.1.size) ?_).trans (h1.trans (HB.out g hg hl hne))
     rcases H2.out.2.2.1.2.2 with e | e | e
     ·rw [e]; exact hne
     ·rw [e]; intro e2; injection e2 with e2; have : wr.drew.heap.size = wr.heap.size := rfl; omega
     ·rw [e]; intro e2; injection e2 with e2; have : wr.drew.heap.size = wr.heap.size := rfl; omega
    have E3 := Lib.hid h3e
    have HP2 : Hid (anyP F fs (n + 1) p = (anyP F (fs.drop (i + 1)) n (p ++ [x]) || anyP F (fs.drop (i + 1)) (n + 1) p)) := Lib.hid (HP.out.trans (anyP_drop HX.out n p))
    clear h3a h3b h3c h3d h3e HIH H2 I2
    simp only [put_some, put_none, List.setIfInBounds_toArray, List.set_cons_succ, List.set_cons_zero]
    cases hb : anyP F (fs.drop (i + 1)) n (p ++ [x]) with
    | true =>
     have HBT := Lib.hid hb
     clear hb
     go_wp2_with fail
     go_ret
     unfold SetPost
     have e : anyP F fs N p = true := by rw [HN.out, HP2.out, HBT.out]; rfl
     rw [e]
     obtain ⟨q, q1, q2, q3⟩ := E3.out HBT.out
     exact ⟨rfl, I3.out, O3.out, S3.out, B3.out, fun _ => ⟨q, q1, by rw [HN.out]; exact OkSub.more HX.out q2, q3⟩⟩
    | false =>
     have HBT := Lib.hid hb
     clear hb
     go_wp2_with fail
     go_roundw
     case rel =>
      refine ⟨i + 1, by omega, by go_num, I3, O3, S3, B3, Lib.hid ?_⟩
      rw [HP2.out, HBT.out, Bool.false_or]
     case measure => simp [intOf]; omega
   ·obtain rfl : i = L := by omega
    have e : anyP F fs N p = false := by
     rw [HN.out, HP.out, List.drop_eq_nil_of_le (by rw [HL.out]; exact Nat.le_refl _)]
     rfl
    have HE := Lib.hid e
    clear e
    go_wp2_with fail
    go_ret
    unfold SetPost
    rw [HE.out]
    exact ⟨rfl, HI.out, HO.out, HS.out, HB.out, fun h => by cases h⟩
end
end Arr
end Go.Proofs.YtkbndlnmbbbohaaGreatDoor
