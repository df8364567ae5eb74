/-
 'Put' where there is no room; 'Free' and 'Used' by contracts. The conditions: the store stands; those that each theorem types.
-/
import Derived.Test.YtgbehfkimchglaaGreatDoorStoGiveM
import Derived.Test.YtgbehfkimchglaaGreatDoorDrawDeepM
namespace Go.Proofs.YtgbehfkimchglaaGreatDoor
open Go Go.RowKit refRack
set_option maxRecDepth 100000
set_option linter.unusedVariables false
namespace Sto
open Sp Arr
section
variable {B : Nat} {w w' : World} {p a r sp m : Nat} {v : Value} {S : St}
set_option maxHeartbeats 3200000 in
theorem put_no (w : World) (h : StoV B w p a r sp m 0 v S) (g o n c : Nat) (h1 : 1 ≤ n) (hn2 : n ≤ 1024) (htk : takeS S.ss ((cost S.s.nd n : Nat) : Int) = ((0, 5), S.ss)) :
  Calls Tryz.prog 21 #[.pointer (some ⟨p, 0, none⟩), .slice (some ⟨g, o, none⟩) n c] w fun e w' => e = .returned (.tuple #[.agg #[.int .i64 0, .int .i64 0, .int .i64 0, .string ⟨#[]⟩], .int .i64 5]) ∧ StoV B w' p a r sp m 0 v S ∧ KeepT B w w' := by
 obtain ⟨q, hq⟩ : ∃ q, q = w.heap.size := ⟨_, rfl⟩
 obtain ⟨wa, hwa⟩ : ∃ wa, wa = w.alloc (.cells #[.int .i64 0, .int .i64 0, .int .i64 0, .string ⟨#[]⟩] 73) := ⟨_, rfl⟩
 have hba : Below w.heap.size w wa := by rw [hwa]; exact (Below.refl _ _).alloc (Nat.le_refl _) _
 have HA := Lib.hid (h.below hba)
 have XQ : Hid (Blk wa q 73 #[.int .i64 0, .int .i64 0, .int .i64 0, .string ⟨#[]⟩]) := Lib.hid (by rw [hwa, hq]; exact Blk.new _ _ _)
 have KA : Hid (KeepT B w wa) := Lib.hid (KeepT.of_new hba h.le)
 have HE := Lib.hid (enter_any wa HA.out)
 have HQ := Lib.hid hq
 have HWA := Lib.hid hwa
 have HTK := Lib.hid htk
 have HBW : Hid (B ≤ w.heap.size) := Lib.hid h.le
 clear h hba hq hwa htk
 go_enter_defers Tryz.func21, Tryz.ntmps21
 go_wp2_with fail
 rw [← HWA.out, ← HQ.out]
 refine HE.out.mono ?_
 rintro e w1 ⟨rfl, s1, k1⟩
 have S1 := Lib.hid s1
 have K1 := Lib.hid (KA.out.trans (KeepT.mem k1))
 have X1 := Lib.hid (k1.kept _ _ XQ.out rfl)
 have c0 : w1.cell? ⟨p, 0, none⟩ = some (.pointer (some ⟨a, 0, none⟩)) := s1.blk.cell 0
 have HC := Lib.hid (cost_ok w1 s1.arr n h1 hn2)
 have hcr : cost S.s.nd n ≤ 32 ∧ 1 ≤ cost S.s.nd n := by
  have h5 := s1.arr.five
  have h16 := s1.arr.bounds.1
  have := cost_room h5 h16 h1 hn2
  exact ⟨this.1, this.2.1⟩
 clear s1 k1 HE HA XQ KA
 go_wp2_with fail
 refine HC.out.mono ?_
 rintro e w1' ⟨rfl, hw⟩
 have hw := hw.symm
 subst hw
 have c3 : w1.cell? ⟨p, 3, none⟩ = some (.pointer (some ⟨sp, 0, none⟩)) := S1.out.blk.cell 3
 have HT := Lib.hid (take_x S1.out.spc ((cost S.s.nd n : Nat) : Int) (by omega))
 rw [HTK.out] at HT
 clear HC
 have hcb : cost S.s.nd n ≤ 32 := hcr.1
 clear hcr
 generalize hcg : cost S.s.nd n = C at *
 have HCG := Lib.hid hcg
 clear hcg
 go_wp2_with fail
 refine HT.out.mono ?_
 rintro e w2 ⟨rfl, p2⟩
 obtain ⟨s2, k2⟩ := S1.out.spc_ p2
 have S2 := Lib.hid s2
 have K2 := Lib.hid (K1.out.trans k2)
 have X2 : Hid (Blk w2 q 73 #[.int .i64 0, .int .i64 0, .int .i64 0, .string ⟨#[]⟩]) := Lib.hid (k2.kept _ _ X1.out rfl)
 have q0 := X2.out.cell 0
 have q1 := X2.out.cell 1
 have q2 := X2.out.cell 2
 have q3 := X2.out.cell 3
 have z0 := X2.out.frozen 0
 have z1 := X2.out.frozen 1
 have z2 := X2.out.frozen 2
 have z3 := X2.out.frozen 3
 obtain ⟨hb7, ho7⟩ := set4 (.int .i64 0) (.int .i64 0) (.int .i64 0) (.string ⟨#[]⟩) X2.out
 obtain ⟨w7, hw7⟩ : ∃ w7, w7 = ((((w2.setCell ⟨q, 0, none⟩ (.int .i64 0)).setCell ⟨q, 1, none⟩ (.int .i64 0)).setCell ⟨q, 2, none⟩ (.int .i64 0)).setCell ⟨q, 3, none⟩ (.string ⟨#[]⟩)) := ⟨_, rfl⟩
 rw [← hw7] at hb7 ho7
 have HW7 := Lib.hid hw7
 clear hw7
 have S7 := Lib.hid (s2.aside X2.out ho7)
 have K7 := Lib.hid (K2.out.aside ho7 (by rw [HQ.out]; exact Nat.le_refl _) HBW.out)
 have X7 := Lib.hid hb7
 have HU := Lib.hid (fun u => unlock_deferred ⟨p, 1, none⟩ u w7 (S7.out.blk.cell 1) (S7.out.blk.frozen 1))
 have HP := Lib.hid (S7.out.put (i := 1) (u := .int .i32 0) (lk' := 0) (S' := S) rfl rfl rfl rfl rfl)
 have X8 : Hid (Blk (w7.setCell ⟨p, 1, none⟩ (.int .i32 0)) q 73 #[.int .i64 0, .int .i64 0, .int .i64 0, .string ⟨#[]⟩]) := Lib.hid (HP.out.2.kept _ _ X7.out rfl)
 clear s2 k2 p2 HT c0 c3 S1 K1 X1 hb7 ho7 S2 X2
 go_wp2_with fail
 rw [← HW7.out]
 refine leaves_cons (f := 27) (args := #[.pointer (some ⟨p, 1, none⟩)]) (by simp) (by simp [go_sem]) ?_
 refine (HU.out _).mono ?_
 rintro e u' w8 ⟨rfl, rfl, rfl⟩
 have LV := loadVar_blk X8.out Tryz.underlying73 rfl size_ptr
 simp [Leaves, settle, results, Tryz.results21, asAddr, Sem.run_bind, Sem.run_pure, Result.andThen_ok, LV, -List.getD_eq_getElem?_getD]
 exact ⟨HP.out.1, K7.out.trans (KeepT.mem HP.out.2)⟩
theorem sused_any (w : World) (h : StoV B w p a r sp m 0 v S) :
  Calls Tryz.prog 14 #[.pointer (some ⟨p, 0, none⟩)] w fun e w' => (∃ A c, e = .returned (.slice A (S.ss.S 1).length c)) ∧ StoV B w' p a r sp m 0 v S ∧ KeepT B w w' := by
 have HE := Lib.hid (enter_any w h)
 clear h
 go_enter_defers Tryz.func14, Tryz.ntmps14
 go_wp2_with fail
 refine HE.out.mono ?_
 rintro e w1 ⟨rfl, h1, k1⟩
 have H1 := Lib.hid h1
 have K1 := Lib.hid (KeepT.mem k1)
 have c3 : w1.cell? ⟨p, 3, none⟩ = some (.pointer (some ⟨sp, 0, none⟩)) := h1.blk.cell 3
 have HF := Lib.hid (used_at h1.spc.a)
 clear h1 k1 HE
 go_wp2_with fail
 refine HF.out.mono ?_
 rintro e w2 ⟨vr, rfl, ho, _, b2⟩
 obtain ⟨A, c, rfl⟩ : ∃ A c, vr = .slice A (S.ss.S 1).length c := by
  rcases ho with ⟨e1, e2⟩ | ⟨g, cap, cur, e1, _⟩
  ·exact ⟨none, 0, by rw [e1, e2]; rfl⟩
  ·exact ⟨_, _, e1⟩
 have h2 := H1.out.below b2
 have K2 := Lib.hid (K1.out.new b2 H1.out.le)
 have HU := Lib.hid (fun u => unlock_deferred ⟨p, 1, none⟩ u w2 (h2.blk.cell 1) (h2.blk.frozen 1))
 have HP := Lib.hid (h2.put (i := 1) (u := .int .i32 0) (lk' := 0) (S' := S) rfl rfl rfl rfl rfl)
 clear h2 b2 HF c3 ho
 obtain ⟨z, hz⟩ : ∃ z, z = (S.ss.S 1).length := ⟨_, rfl⟩
 rw [← hz]
 have HZ := Lib.hid hz
 clear hz
 go_wp2_with fail
 refine leaves_cons (f := 27) (args := #[.pointer (some ⟨p, 1, none⟩)]) (by simp) (by simp [go_sem]) ?_
 refine (HU.out _).mono ?_
 rintro e u' w4 ⟨rfl, rfl, rfl⟩
 simp [Leaves, settle, results, Tryz.results14]
 exact ⟨HZ.out, HP.out.1, K2.out.trans (KeepT.mem HP.out.2)⟩
end
end Sto
end Go.Proofs.YtgbehfkimchglaaGreatDoor
namespace Go.Proofs.YtgbehfkimchglaaGreatDoor
open Go Go.RowKit refRack
set_option maxRecDepth 100000
set_option linter.unusedVariables false
namespace Sto
open Sp Arr
structure Lf where
 ad : Nat
 n : Nat
 sm : ByteArray
def Lf.in_ (x : Lf) (c : Nat) : Prop := x.ad ≤ c ∧ c < x.ad + Arr.cost 7 x.n
def lfIn (l : List Lf) (c : Nat) : Prop := ∃ x ∈ l, x.in_ c
structure LfOk (s : SS) (l : List Lf) : Prop where
 size : ∀ x ∈ l, 1 ≤ x.n ∧ x.n ≤ 1024
 used : ∀ c, Sp.mem (s.S 1) c ↔ lfIn l c
 apart : l.Pairwise fun x y => ∀ c, x.in_ c → ¬ y.in_ c
theorem cost7 {n : Nat} (h1 : 1 ≤ n) (hn : n ≤ 1024) : 1 ≤ Arr.cost 7 n ∧ Arr.cost 7 n ≤ 32 := by
 have := Arr.cost_room (N := 7) (by omega) (by omega) h1 hn
 exact ⟨this.2.1, this.1⟩
theorem lfIn_app {l : List Lf} {x : Lf} {c : Nat} : lfIn (l ++ [x]) c ↔ lfIn l c ∨ x.in_ c := by
 unfold lfIn
 constructor
 ·rintro ⟨y, hy, hc⟩
  rcases List.mem_append.1 hy with h | h
  ·exact .inl ⟨y, h, hc⟩
  ·rw [List.mem_singleton.1 h] at hc; exact .inr hc
 ·rintro (⟨y, hy, hc⟩ | hc)
  ·exact ⟨y, List.mem_append_left _ hy, hc⟩
  ·exact ⟨x, by simp, hc⟩
theorem lfIn_cons {l : List Lf} {x : Lf} {c : Nat} : lfIn (x :: l) c ↔ x.in_ c ∨ lfIn l c := by
 unfold lfIn
 constructor
 ·rintro ⟨y, hy, hc⟩
  rcases List.mem_cons.1 hy with h | h
  ·rw [h] at hc; exact .inl hc
  ·exact .inr ⟨y, h, hc⟩
 ·rintro (hc | ⟨y, hy, hc⟩)
  ·exact ⟨x, by simp, hc⟩
  ·exact ⟨y, List.mem_cons_of_mem _ hy, hc⟩
theorem LfOk.put {s : SS} {l : List Lf} (h : LfOk s l) (hg : Sp.Good s) {x : Lf} (h1 : 1 ≤ x.n) (hn : x.n ≤ 1024) (hh : Sp.hasL x.ad (x.ad + Arr.cost 7 x.n) (s.S 0) = true) : LfOk (s.mv 0 1 x.ad (x.ad + Arr.cost 7 x.n)) (l ++ [x]) := by
 have hc := cost7 h1 hn
 have hm := hg.mv_mem (f := 0) (t := 1) (by omega) (by omega) (by omega) (show x.ad < x.ad + Arr.cost 7 x.n by omega) hh
 have hin := (Sp.Ris.has (show x.ad < x.ad + Arr.cost 7 x.n by omega) (hg.ris 0 (by omega))).1 hh
 refine ⟨fun y hy => ?_, fun c => ?_, ?_⟩
 ·rcases List.mem_append.1 hy with h2 | h2
  ·exact h.size y h2
  ·rw [List.mem_singleton.1 h2]; exact ⟨h1, hn⟩
 ·rw [hm 1 (by omega) c, lfIn_app, ← h.used c]
  unfold Lf.in_
  split
  ·next hx => exact ⟨fun _ => .inr hx, fun _ => rfl⟩
  ·next hx => exact ⟨.inl, fun h => h.elim id (fun h => absurd h hx)⟩
 ·rw [List.pairwise_append]
  refine ⟨h.apart, List.pairwise_singleton _ _, fun y hy z hz c hyc hzc => ?_⟩
  rw [List.mem_singleton.1 hz] at hzc
  have h3 := (h.used c).2 ⟨y, hy, hyc⟩
  have h4 := hin c hzc.1 hzc.2
  exact absurd (hg.one 0 1 c (by omega) (by omega) h4 h3) (by omega)
theorem LfOk.give {s : SS} {l l' : List Lf} {x : Lf} (h : LfOk s l) (hg : Sp.Good s) (hp : l.Perm (x :: l')) : Sp.hasL x.ad (x.ad + Arr.cost 7 x.n) (s.S 1) = true ∧ LfOk (s.mv 1 2 x.ad (x.ad + Arr.cost 7 x.n)) l' := by
 have hx : x ∈ l := hp.mem_iff.2 (List.mem_cons_self ..)
 have hc := cost7 (h.size x hx).1 (h.size x hx).2
 have hh : Sp.hasL x.ad (x.ad + Arr.cost 7 x.n) (s.S 1) = true := (Sp.Ris.has (by omega) (hg.ris 1 (by omega))).2 fun c h1 h2 => (h.used c).2 ⟨x, hx, h1, h2⟩
 have hm := hg.mv_mem (f := 1) (t := 2) (by omega) (by omega) (by omega) (show x.ad < x.ad + Arr.cost 7 x.n by omega) hh
 have hap : (x :: l').Pairwise fun x y => ∀ c, x.in_ c → ¬ y.in_ c := hp.pairwise_iff (fun {a b} hab c hb ha => hab c ha hb) |>.1 h.apart
 rw [List.pairwise_cons] at hap
 refine ⟨hh, fun y hy => h.size y (hp.mem_iff.2 (List.mem_cons_of_mem _ hy)), fun c => ?_, hap.2⟩
 rw [hm 1 (by omega) c]
 have hu : Sp.mem (s.S 1) c ↔ x.in_ c ∨ lfIn l' c := by
  rw [h.used c, ← lfIn_cons]
  constructor
  ·rintro ⟨y, hy, hyc⟩; exact ⟨y, hp.mem_iff.1 hy, hyc⟩
  ·rintro ⟨y, hy, hyc⟩; exact ⟨y, hp.mem_iff.2 hy, hyc⟩
 split
 ·next hx2 => exact ⟨fun e => absurd e (by omega), fun ⟨y, hy, hyc⟩ => absurd hyc (hap.1 y hy c hx2)⟩
 ·next hx2 => rw [hu]; exact ⟨fun h => h.elim (fun h => absurd h hx2) id, .inr⟩
def HeldOk (s : SS) (H : Nat → Bool) : Prop := ∀ c, c < s.cells → (H c = true ↔ ¬ Sp.mem (s.S 0) c)
theorem HeldOk.put {s : SS} {H : Nat → Bool} (h : HeldOk s H) (hg : Sp.Good s) {a k : Nat} (hk : 1 ≤ k) (hh : Sp.hasL a (a + k) (s.S 0) = true) : HeldOk (s.mv 0 1 a (a + k)) (fun c => decide (a ≤ c ∧ c < a + k) || H c) := fun c hc => by
 have hm := hg.mv_mem (f := 0) (t := 1) (by omega) (by omega) (by omega) (show a < a + k by omega) hh 0 (by omega) c
 rw [hm]
 by_cases hx : a ≤ c ∧ c < a + k
 ·rw [if_pos hx]; simp [hx]
 ·rw [if_neg hx]; simp only [decide_eq_false hx, Bool.false_or]; exact h c hc
theorem HeldOk.give {s : SS} {H : Nat → Bool} (h : HeldOk s H) (hg : Sp.Good s) {a k : Nat} (hk : 1 ≤ k) (hh : Sp.hasL a (a + k) (s.S 1) = true) : HeldOk (s.mv 1 2 a (a + k)) H := fun c hc => by
 have hm := hg.mv_mem (f := 1) (t := 2) (by omega) (by omega) (by omega) (show a < a + k by omega) hh 0 (by omega) c
 rw [hm]
 by_cases hx : a ≤ c ∧ c < a + k
 ·rw [if_pos hx]
  have h1 := (Sp.Ris.has (show a < a + k by omega) (hg.ris 1 (by omega))).1 hh c hx.1 hx.2
  rw [h c hc]
  exact ⟨fun _ e => absurd e (by omega), fun _ h0 => absurd (hg.one 0 1 c (by omega) (by omega) h0 h1) (by omega)⟩
 ·rw [if_neg hx]; exact h c hc
def Ap (B : Nat) (W : World) (p a r sp m K : Nat) (H : Nat → Bool) (l : List Lf) : Prop := ∃ v S, StoV B W p a r sp m 0 v S ∧ Like (RS.new 7 12) S.s ∧ S.f = 1 ∧ S.tx = 1 ∧ S.c3 ≤ K ∧ S.s.cost ≤ 32 * K ∧ S.mem.length ≤ 64 ∧ S.ss.kept = 0 ∧ S.ss.cells = 77 ∧ HeldOk S.ss H ∧ LfOk S.ss l
section
variable {B : Nat} {w w' : World} {p a r sp m K : Nat} {H : Nat → Bool} {l : List Lf}
theorem Ap.below (h : Ap B w p a r sp m K H l) (hb : Below w.heap.size w w') : Ap B w' p a r sp m K H l := by
 obtain ⟨v, S, hs, h⟩ := h
 exact ⟨v, S, hs.below hb, h⟩
theorem Ap.le (h : Ap B w p a r sp m K H l) : B ≤ w.heap.size := by
 obtain ⟨v, S, hs, h⟩ := h
 exact hs.le
theorem put_ap (w : World) (h : Ap B w p a r sp m K H l) (hl : Laid w) (hB : 0 < B) (hK : K ≤ 30) (g n c : Nat) (dat : List Nat) (hd : Byt w (some ⟨g, 0, none⟩) dat) (hn : n = dat.length) (h1 : 1 ≤ n) (hn2 : n ≤ 1024) (hnc : n ≤ c) (hcm : c ≤ maxLen) :
  Calls Tryz.prog 21 #[.pointer (some ⟨p, 0, none⟩), .slice (some ⟨g, 0, none⟩) n c] w fun e w' => ((e = .returned (.tuple #[.agg #[.int .i64 0, .int .i64 0, .int .i64 0, .string ⟨#[]⟩], .int .i64 5]) ∧ Ap B w' p a r sp m (K + 1) H l) ∨
   (∃ ad sm, e = .returned (.tuple #[.agg #[.int .i64 ((ad : Nat) : Int), .int .i64 (n : Int), .int .i64 1, .string sm], .int .i64 0]) ∧ ad + Arr.cost 7 n ≤ 77 ∧ (∀ c, ad ≤ c → c < ad + Arr.cost 7 n → H c = false) ∧ Ap B w' p a r sp m (K + 1) (fun c => decide (ad ≤ c ∧ c < ad + Arr.cost 7 n) || H c) (l ++ [⟨ad, n, sm⟩]))) ∧ KeepT B w w' := by
 obtain ⟨v, S, hs, e1, e2, e3, e4, e5, e6, e7, e8, e9, e10⟩ := h
 have hg := hs.spc.good
 have hc := cost7 h1 hn2
 have hnd : S.s.nd = 7 := e1.nd
 by_cases hy : ∃ ad, Sp.rowL (Arr.cost 7 n) (S.ss.S 0) = some ad ∧ Arr.cost 7 n + S.ss.kept ≤ cnt (S.ss.S 0)
 ·obtain ⟨ad, hrow, hle⟩ := hy
  have hrh := row_has hg hc.1 hrow
  have hin := (Sp.Ris.has (show ad < ad + Arr.cost 7 n by omega) (hg.ris 0 (by omega))).1 hrh.1
  have hlk := wrAll_like S.s S.f ad (cellX S.s.nd n fun j => dat.getD j 0) (Arr.cost S.s.nd n)
  refine (put_yes w hs hl hB (e1.calm ⟨rfl, rfl⟩) (fun d => by rw [e1.gone]; rfl) (by rw [e8]; unfold Arr.cells; rw [e1.nd, e1.ns, e2]; rfl) e6 (by omega) (by omega) g 0 n c dat hd hn h1 hn2 hnc hcm (by rw [hnd]; omega) ad (by rw [hnd]; exact hrow) (by rw [hnd]; exact hle)).mono ?_
  rintro e w' ⟨rfl, ⟨x, v', hx1, hx2, hx3, hs'⟩, hk⟩
  refine ⟨.inr ⟨ad, _, by rw [e3]; rfl, by rw [← e8]; exact hrh.2, fun c h1 h2 => ?_, v', _, hs', e1.trans hlk.1, e2, e3, by show S.c3 + 1 ≤ K + 1; omega, ?_, ?_, e7, e8, ?_, ?_⟩, hk⟩
  ·have h3 := hin c h1 h2
   have h4 := e9 c (hg.in_ 0 (by omega) c h3)
   cases hH : H c with
   | false => rfl
   | true => exact absurd h3 (h4.1 hH)
  ·have h5 := hlk.2
   rw [hnd] at h5
   show (wrAll S.s S.f ad (cellX S.s.nd n fun j => dat.getD j 0) (Arr.cost S.s.nd n)).cost ≤ 32 * (K + 1)
   rw [hnd]
   omega
  ·show (old (Sto.cut (ad : Int) S.mem) ++ [x]).length ≤ 64
   have h4 := old_len (l := Sto.cut (ad : Int) S.mem) (Nat.le_trans (cut_len _ _) e6)
   rw [List.length_append]
   show _ + 1 ≤ 64
   omega
  ·rw [hnd]; exact e9.put hg hc.1 hrh.1
  ·rw [hnd]; exact e10.put (x := ⟨ad, n, _⟩) hg h1 hn2 hrh.1
 ·refine (put_no w hs g 0 n c h1 hn2 ?_).mono ?_
  ·rw [hnd, takeS_nat _ _ hc.1]
   cases hrow : Sp.rowL (Arr.cost 7 n) (S.ss.S 0) with
   | none => rfl
   | some x =>
    dsimp only
    rw [if_neg (fun hle => hy ⟨x, hrow, hle⟩)]
  ·rintro e w' ⟨rfl, hs', hk⟩
   exact ⟨.inl ⟨rfl, v, S, hs', e1, e2, e3, by omega, by omega, e6, e7, e8, e9, e10⟩, hk⟩
theorem giveS_at {s : SS} {ad C : Nat} (hc : 1 ≤ C) (ha : ad + C ≤ s.cells) : giveS s (ad : Int) (C : Int) = if Sp.hasL ad (ad + C) (s.S 1) then (0, s.mv 1 2 ad (ad + C)) else (7, s) := by
 unfold giveS
 rw [if_neg (by omega), Int.toNat_natCast, Int.toNat_natCast]
theorem give_ap (w : World) (h : Ap B w p a r sp m K H l) {x : Lf} {l' : List Lf} (hp : l.Perm (x :: l')) :
  Calls Tryz.prog 23 #[.pointer (some ⟨p, 0, none⟩), .agg #[.int .i64 (x.ad : Int), .int .i64 (x.n : Int), .int .i64 1, .string x.sm]] w fun e w' => e = .returned (.int .i64 0) ∧ Ap B w' p a r sp m K H l' ∧ KeepT B w w' := by
 obtain ⟨v, S, hs, e1, e2, e3, e4, e5, e6, e7, e8, e9, e10⟩ := h
 have hg := hs.spc.good
 have hx : x ∈ l := hp.mem_iff.2 (List.mem_cons_self ..)
 have hsz := e10.size x hx
 have hc := cost7 hsz.1 hsz.2
 have hnd : S.s.nd = 7 := e1.nd
 have hgv := e10.give hg hp
 have hle : x.ad + Arr.cost 7 x.n ≤ 77 := by
  have := hg.in_ 1 (by omega) (x.ad + Arr.cost 7 x.n - 1) ((e10.used _).2 ⟨x, hx, by omega, by omega⟩)
  omega
 refine (give_any w hs e6 (x.ad : Int) x.n 1 x.sm hsz.1 hsz.2 (by omega) (by omega) 0 (S.ss.mv 1 2 x.ad (x.ad + Arr.cost 7 x.n)) (by rw [hnd, giveS_at hc.1 (by omega), hgv.1]; rfl) (.inl rfl)).mono ?_
 rintro e w' ⟨rfl, ⟨v', hs'⟩, hk⟩
 refine ⟨rfl, ⟨v', _, hs', e1, e2, e3, e4, e5, ?_, e7, e8, e9.give hg hc.1 hgv.1, hgv.2⟩, hk⟩
 show (if (0 : Int) = 0 then Sto.cut (x.ad : Int) S.mem else S.mem).length ≤ 64
 rw [if_pos rfl]
 exact Nat.le_trans (cut_len _ _) e6
theorem give_no (w : World) (h : Ap B w p a r sp m K H l) {x : Lf} (h1 : 1 ≤ x.n) (hn : x.n ≤ 1024) (hle : x.ad + Arr.cost 7 x.n ≤ 77) (hno : ∀ c, x.in_ c → ¬ lfIn l c) :
  Calls Tryz.prog 23 #[.pointer (some ⟨p, 0, none⟩), .agg #[.int .i64 (x.ad : Int), .int .i64 (x.n : Int), .int .i64 1, .string x.sm]] w fun e w' => e = .returned (.int .i64 7) ∧ Ap B w' p a r sp m K H l ∧ KeepT B w w' := by
 obtain ⟨v, S, hs, e1, e2, e3, e4, e5, e6, e7, e8, e9, e10⟩ := h
 have hg := hs.spc.good
 have hc := cost7 h1 hn
 have hnd : S.s.nd = 7 := e1.nd
 have hh : Sp.hasL x.ad (x.ad + Arr.cost 7 x.n) (S.ss.S 1) = false := by
  cases hb : Sp.hasL x.ad (x.ad + Arr.cost 7 x.n) (S.ss.S 1) with
  | false => rfl
  | true =>
   have hi : x.in_ x.ad := ⟨Nat.le_refl _, by omega⟩
   exact absurd ((e10.used _).1 ((Sp.Ris.has (by omega) (hg.ris 1 (by omega))).1 hb x.ad (Nat.le_refl _) (by omega))) (hno _ hi)
 refine (give_any w hs e6 (x.ad : Int) x.n 1 x.sm h1 hn (by omega) (by omega) 7 S.ss (by rw [hnd, giveS_at hc.1 (by omega), hh]; rfl) (.inr ⟨rfl, rfl⟩)).mono ?_
 rintro e w' ⟨rfl, ⟨v', hs'⟩, hk⟩
 refine ⟨rfl, ⟨v', _, hs', e1, e2, e3, e4, e5, ?_, e7, e8, e9, e10⟩, hk⟩
 show (if (7 : Int) = 0 then Sto.cut (x.ad : Int) S.mem else S.mem).length ≤ 64
 rw [if_neg (by omega)]
 exact e6
def Done (B : Nat) (W : World) (p a r sp m : Nat) : Prop := ∃ v S, StoV B W p a r sp m 0 v S ∧ Like (RS.new 7 12) S.s ∧ S.f = 1 ∧ S.ss.kept = 0 ∧ S.ss.S 0 = [(0, 77)] ∧ S.ss.S 1 = []
theorem settle_ap (w : World) (h : Ap B w p a r sp m K H []) :
  Calls Tryz.prog 24 #[.pointer (some ⟨p, 0, none⟩)] w fun e w' => (∃ z, e = .returned (.int .i64 z)) ∧ Done B w' p a r sp m ∧ KeepT B w w' := by
 obtain ⟨v, S, hs, e1, e2, e3, e4, e5, e6, e7, e8, e9, e10⟩ := h
 have hg := hs.spc.good
 refine (ssettle_any w hs).mono ?_
 rintro e w' ⟨rfl, hs', hk⟩
 have h1 : S.ss.S 1 = [] := Sp.Ris.uniq (lo' := 0) (hg.ris 1 (by omega)) trivial fun c => ⟨fun hc => absurd ((e10.used c).1 hc) (fun ⟨x, hx, _⟩ => absurd hx (List.not_mem_nil)), fun hc => absurd hc (mem_nil c)⟩
 have hst := hg.settled_all
 refine ⟨⟨_, rfl⟩, ⟨v, _, hs', e1, e2, e7, ?_, ?_⟩, hk⟩
 ·refine Sp.Ris.uniq (lo' := 0) hst.2.2 (show Sp.Ris 0 [(0, 77)] from ⟨Nat.le_refl _, by omega, trivial⟩) fun c => ?_
  rw [hst.1 0 (by omega) c, if_pos rfl, mem_one]
  constructor
  ·rintro (h | h)
   ·exact ⟨Nat.zero_le _, by rw [← e8]; exact hg.in_ 0 (by omega) c h⟩
   ·exact ⟨Nat.zero_le _, by rw [← e8]; exact hg.in_ 2 (by omega) c h⟩
  ·rintro ⟨_, hc⟩
   obtain ⟨k, hk3, hk⟩ := hg.all c (by rw [e8]; exact hc)
   rcases (show k = 0 ∨ k = 1 ∨ k = 2 by omega) with rfl | rfl | rfl
   ·exact .inl hk
   ·rw [h1] at hk; exact absurd hk (mem_nil c)
   ·exact .inr hk
 ·show S.ss.settled.S 1 = []
  rw [settled_S, if_neg (by omega), if_neg (by omega), h1]
theorem ap_new {v : Value} (h : StoV B w p a r sp m 0 v (new0 (RS.new 7 12) 1 1)) : Ap B w p a r sp m 0 (fun _ => false) [] := by
 refine ⟨v, _, h, Like.refl _, rfl, rfl, Nat.le_refl _, Nat.zero_le _, Nat.zero_le _, rfl, rfl, fun c hc => ?_, ⟨fun x hx => absurd hx (List.not_mem_nil), fun c => ?_, List.Pairwise.nil⟩⟩
 ·show false = true ↔ ¬ Sp.mem ((allFree 77).S 0) c
  rw [allFree_mem]
  exact ⟨fun h => absurd h (by decide), fun h => absurd ⟨rfl, hc⟩ h⟩
 ·show Sp.mem ((allFree 77).S 1) c ↔ _
  rw [allFree_mem]
  exact ⟨fun h => absurd h.1 (by omega), fun ⟨x, hx, _⟩ => absurd hx (List.not_mem_nil)⟩
end
end Sto
end Go.Proofs.YtgbehfkimchglaaGreatDoor
