/-
 A store in memory; its lock, its counts. No conditions beyond those that each theorem types.
-/
import Derived.Test.YtgbehfkimchglaaGreatDoorStoRem
import Derived.Test.YtgbehfkimchglaaGreatDoorFieldMulM
import Derived.Test.YtgbehfkimchglaaGreatDoorSpcSettleM
import Derived.Test.YtgbehfkimchglaaGreatDoorDrawDeepM
import Derived.Test.YtgbehfkimchglaaGreatDoorParWholeM
namespace Go.Proofs.YtgbehfkimchglaaGreatDoor
open Go Go.RowKit refRack
set_option maxRecDepth 100000
set_option linter.unusedVariables false
namespace Sto
open Sp
def stA (a sp : Nat) (lk : Int) (tx : Nat) (v : Value) (c0 c1 c2 c3 : Nat) : Array Value := #[.pointer (some ⟨a, 0, none⟩), .int .i32 lk, .int .u32 0, .pointer (some ⟨sp, 0, none⟩), .int .i64 (tx : Int), v, .int .i64 (c0 : Int), .int .i64 (c1 : Int), .int .i64 (c2 : Int), .int .i64 (c3 : Int)]
theorem add_one (w : World) (p o x : Nat) (hx : x ≤ 1000000) (hc : w.cell? ⟨p, o, none⟩ = some (.int .i64 (x : Int))) (hz : w.frozen? ⟨p, o, none⟩ = false) :
  Calls Tryz.prog 120 #[.pointer (some ⟨p, o, none⟩), .int .i64 1] w fun e w' => e = .returned (.int .i64 ((x + 1 : Nat) : Int)) ∧ w' = w.setCell ⟨p, o, none⟩ (.int .i64 ((x + 1 : Nat) : Int)) := by
 have hadd := run_call_add (P := Tryz.prog) Tryz.func173 (by kernel_rfl) (by kernel_rfl) (by kernel_rfl) .i64 (by kernel_rfl) (y := 1) (s := ((x + 1 : Nat) : Int)) hc hz (by
  have e : (x : Int) + 1 = ((x + 1 : Nat) : Int) := by omega
  rw [show Op.intArith .add .i64 (x : Int) 1 = pure (.int .i64 (IntKind.i64.wrap ((x : Int) + 1))) from rfl, e, IntWalk.i64_in _ (by omega)]
  rfl)
 go_enter Tryz.func120, Tryz.ntmps120
 go_wp2_with fail
 go_ret
 exact ⟨rfl, rfl⟩
theorem load_cnt (w : World) (p o x : Nat) (hc : w.cell? ⟨p, o, none⟩ = some (.int .i64 (x : Int))) :
  Calls Tryz.prog 78 #[.pointer (some ⟨p, o, none⟩)] w fun e w' => e = .returned (.int .i64 (x : Int)) ∧ w' = w := by
 have hld := run_call_load (P := Tryz.prog) Tryz.func140 (by kernel_rfl) (by kernel_rfl) (by kernel_rfl) .i64 (by kernel_rfl) hc
 go_enter Tryz.func78, Tryz.ntmps78
 go_wp2_with fail
 go_ret
 exact ⟨rfl, rfl⟩
structure St where
 s : RS
 f : Nat
 ss : SS
 tx : Nat
 mem : List Kx
 c0 : Nat
 c1 : Nat
 c2 : Nat
 c3 : Nat
structure St.ok (S : St) : Prop where
 few : S.mem.length ≤ 64
 tx : S.tx ≤ 1000000000
 cnt : S.c0 ≤ 100000 ∧ S.c1 ≤ 100000 ∧ S.c2 ≤ 100000 ∧ S.c3 ≤ 100000
 all : S.ss.cells = Arr.cells S.s S.f
structure StoV (B : Nat) (w : World) (p a r sp m : Nat) (lk : Int) (v : Value) (S : St) : Prop where
 arr : Arr.At B w a r S.f S.s
 spc : SpX B w sp m S.ss
 blk : Blk w p 103 (stA a sp lk S.tx v S.c0 S.c1 S.c2 S.c3)
 row : Row w B v S.mem
 lo : B ≤ p
def StoAt (B : Nat) (w : World) (p a r : Nat) (S : St) : Prop := S.ok ∧ ∃ sp m v, StoV B w p a r sp m 0 v S
section
variable {B : Nat} {w w' : World} {p a r sp m : Nat} {lk : Int} {v : Value} {S : St}
theorem StoV.le (h : StoV B w p a r sp m lk v S) : B ≤ w.heap.size := h.arr.rack.le
theorem StoV.below (h : StoV B w p a r sp m lk v S) (hb : Below w.heap.size w w') : StoV B w' p a r sp m lk v S :=
 ⟨h.arr.grown_ hb, h.spc.below hb, h.blk.below hb h.blk.lt, h.row.below hb, h.lo⟩
theorem StoV.put (h : StoV B w p a r sp m lk v S) {i : Nat} {u : Value} {lk' : Int} {S' : St} (hc : (stA a sp lk S.tx v S.c0 S.c1 S.c2 S.c3).setIfInBounds i u = stA a sp lk' S'.tx v S'.c0 S'.c1 S'.c2 S'.c3) (e1 : S'.s = S.s) (e2 : S'.f = S.f) (e3 : S'.ss = S.ss) (e4 : S'.mem = S.mem) :
  StoV B (w.setCell ⟨p, i, none⟩ u) p a r sp m lk' v S' ∧ KeepM B w (w.setCell ⟨p, i, none⟩ u) := by
 have hk : KeepM B w (w.setCell ⟨p, i, none⟩ u) := KeepM.only h.blk rfl (grown_set w p i u) h.lo h.le
 refine ⟨⟨by rw [e1, e2]; exact at_mem h.arr hk, by rw [e3]; exact h.spc.mem hk, ?_, ?_, h.lo⟩, hk⟩
 ·have := h.blk.set_ i u
  rw [hc] at this
  exact this
 ·rw [e4]
  refine h.row.keep (fun g hg => ?_) (fun g cur fr hg => hk.kept _ _ hg rfl)
  obtain ⟨cur, hb⟩ := h.row.own.blk_of hg
  exact Below.heap_setCell _ _ _ _ (fun e => hb.ne_ h.blk (by decide) e)
theorem StoV.memo (h : StoV B w p a r sp m lk v S) {l : List Kx} (hm : MemPost B w w' p (stA a sp lk S.tx v S.c0 S.c1 S.c2 S.c3) l) : ∃ v', StoV B w' p a r sp m lk v' { S with mem := l } ∧ KeepM B w w' := by
 obtain ⟨v', h1, h2, h3⟩ := hm
 exact ⟨v', ⟨at_mem h.arr h3, h.spc.mem h3, h1, h2, h.lo⟩, h3⟩
theorem StoV.rack (h : StoV B w p a r sp m lk v S) {s' : RS} (hr : RackAt B w' r s') (hk : Keep B w w') (e1 : s'.nd = S.s.nd) (e2 : s'.ns = S.s.ns) : StoV B w' p a r sp m lk v { S with s := s' } :=
 ⟨h.arr.rack_ hr hk e1 e2, h.spc.rack hk, hk.kept _ _ h.blk rfl, h.row.rack hk, h.lo⟩
theorem StoV.space (h : StoV B w p a r sp m lk v S) {n : Nat} {F : Nat → Option Value} {V : Nat → Value} {s' : SS} (hs : Spc w B sp m n F V S.ss) (hf : Frm (SpB sp m V) w w') (h' : SpX B w' sp m s') : StoV B w' p a r sp m lk v { S with ss := s' } ∧ KeepT B w w' :=
 ⟨⟨at_spx h.arr hs hf, h', Frm.out hs hf h.blk rfl, h.row.spc hs hf, h.lo⟩, KeepT.spc hs hf h.le⟩
end
section
variable {B : Nat} {w w' : World} {p a r sp m : Nat} {v : Value} {S : St}
theorem enter_any (w : World) (h : StoV B w p a r sp m 0 v S) :
  Calls Tryz.prog 26 #[.pointer (some ⟨p, 0, none⟩)] w fun e w' => e = .returned (.bool true) ∧ StoV B w' p a r sp m 1 v S ∧ KeepM B w w' := by
 have c0 : w.cell? ⟨p, 0, none⟩ = some (.pointer (some ⟨a, 0, none⟩)) := h.blk.cell 0
 have HL := Lib.hid (lock_free ⟨p, 1, none⟩ w (h.blk.cell 1) (h.blk.frozen 1))
 have HP := Lib.hid (h.put (i := 1) (u := .int .i32 1) (lk' := 1) (S' := S) rfl rfl rfl rfl rfl)
 clear h
 go_enter Tryz.func26, Tryz.ntmps26
 go_wp2_with fail
 refine HL.out.mono ?_
 rintro e w1 ⟨rfl, rfl⟩
 go_wp2_with fail
 go_ret
 exact ⟨rfl, HP.out.1, HP.out.2⟩
theorem hit_any (w : World) (h : StoV B w p a r sp m 1 v S) (hb : S.c0 ≤ 1000000) :
  Calls Tryz.prog 71 #[.pointer (some ⟨p, 6, none⟩)] w fun e w' => e = .returned (.tuple #[]) ∧ StoV B w' p a r sp m 1 v { S with c0 := S.c0 + 1 } ∧ KeepM B w w' := by
 have HA := Lib.hid (add_one w p 6 S.c0 hb (h.blk.cell 6) (h.blk.frozen 6))
 have HP := Lib.hid (h.put (i := 6) (u := .int .i64 ((S.c0 + 1 : Nat) : Int)) (lk' := 1) (S' := { S with c0 := S.c0 + 1 }) rfl rfl rfl rfl rfl)
 clear h
 go_enter Tryz.func71, Tryz.ntmps71
 go_wp2_with fail
 refine HA.out.mono ?_
 rintro e w1 ⟨rfl, rfl⟩
 go_wp2_with fail
 first | go_end0 | (simp only [Exit.inBlock, Exit.then]; refine bodyPost_ret (results_none rfl _ _ _) rfl ?_) | refine bodyPost_ret (results_none rfl _ _ _) rfl ?_
 exact ⟨rfl, HP.out.1, HP.out.2⟩
theorem putc_any (w : World) (h : StoV B w p a r sp m 1 v S) (hb : S.c3 ≤ 1000000) :
  Calls Tryz.prog 65 #[.pointer (some ⟨p, 6, none⟩)] w fun e w' => e = .returned (.tuple #[]) ∧ StoV B w' p a r sp m 1 v { S with c3 := S.c3 + 1 } ∧ KeepM B w w' := by
 have HA := Lib.hid (add_one w p 9 S.c3 hb (h.blk.cell 9) (h.blk.frozen 9))
 have HP := Lib.hid (h.put (i := 9) (u := .int .i64 ((S.c3 + 1 : Nat) : Int)) (lk' := 1) (S' := { S with c3 := S.c3 + 1 }) rfl rfl rfl rfl rfl)
 clear h
 go_enter Tryz.func65, Tryz.ntmps65
 go_wp2_with fail
 refine HA.out.mono ?_
 rintro e w1 ⟨rfl, rfl⟩
 go_wp2_with fail
 first | go_end0 | (simp only [Exit.inBlock, Exit.then]; refine bodyPost_ret (results_none rfl _ _ _) rfl ?_) | refine bodyPost_ret (results_none rfl _ _ _) rfl ?_
 exact ⟨rfl, HP.out.1, HP.out.2⟩
end
end Sto
end Go.Proofs.YtgbehfkimchglaaGreatDoor
namespace Go.Proofs.YtgbehfkimchglaaGreatDoor
open Go Go.RowKit refRack
set_option maxRecDepth 100000
set_option linter.unusedVariables false
namespace Sto
open Sp
def SpPost (B : Nat) (w w' : World) (b m : Nat) (s s' : SS) : Prop := ∃ F V, Spc w B b m 3 F V s ∧ Frm (SpB b m V) w w' ∧ SpX B w' b m s'
section
variable {B : Nat} {w w' : World} {b m : Nat} {s : SS}
theorem SpPost.same (h : SpX B w b m s) (hb : Below w.heap.size w w') : SpPost B w w' b m s s := by
 have hx := h.below hb
 obtain ⟨h0, F, V, hs⟩ := h
 exact ⟨F, V, hs, Frm.of hb _, hx⟩
theorem SpPost.of (h0 : B ≤ w.heap.size) {n' : Nat} {F F' : Nat → Option Value} {V V' : Nat → Value} {s' : SS} (hs : Spc w B b m 3 F V s) (c : Chg w w' b m V V') (h' : Spc w' B b m n' F' V' s') : SpPost B w w' b m s s' := by
 obtain ⟨h1, h2⟩ := SpX.of h0 hs c h'
 exact ⟨F, V, hs, h2, h1⟩
theorem take_x (h : SpX B w b m s) (j : Int) (hj : j ≤ 9223372036854775807) : Calls Tryz.prog 60 #[.pointer (some ⟨b, 0, none⟩), .int .i64 j] w fun e w' => e = .returned (.tuple #[.int .i64 (takeS s j).1.1, .int .i64 (takeS s j).1.2]) ∧ SpPost B w w' b m s (takeS s j).2 := by
 have hX := h
 obtain ⟨h0, F, V, hs⟩ := h
 by_cases hj1 : j < 1
 ·refine (take_arg hs j hj1).mono fun e w' ⟨h1, h2⟩ => ?_
  have e1 : takeS s j = ((0, 1), s) := if_pos hj1
  rw [e1]
  subst h2
  exact ⟨h1, SpPost.same hX (Below.refl _ _)⟩
 ·obtain ⟨k, hk⟩ : ∃ k, k = j.toNat := ⟨_, rfl⟩
  have ej : j = (k : Int) := by omega
  have e1 := takeS_nat s k (by omega)
  rw [ej, e1]
  cases hr : Sp.rowL k (s.S 0) with
  | none =>
   refine (take_no hs k (by omega) (fun x hx => by rw [hr] at hx; cases hx)).mono fun e w' ⟨h1, h2⟩ => ?_
   exact ⟨h1, SpPost.same hX h2⟩
  | some x =>
   dsimp only
   by_cases hc : k + s.kept ≤ cnt (s.S 0)
   ·rw [if_pos hc]
    refine (take_yes hs h0 (by decide) k x (by omega) hr hc).mono fun e w' ⟨h3, F', V', h4, h5⟩ => ?_
    exact ⟨h3, SpPost.of h0 hs h5 h4⟩
   ·rw [if_neg hc]
    refine (take_no hs k (by omega) (fun x _ => by omega)).mono fun e w' ⟨h1, h2⟩ => ?_
    exact ⟨h1, SpPost.same hX h2⟩
theorem give_x (h : SpX B w b m s) (a j : Int) (ha1 : -9223372036854775808 ≤ a) (ha2 : a ≤ 9223372036854775807) (hj1 : -9223372036854775808 ≤ j) (hj2 : j ≤ 9223372036854775807) : Calls Tryz.prog 62 #[.pointer (some ⟨b, 0, none⟩), .int .i64 a, .int .i64 j] w fun e w' => e = .returned (.int .i64 (giveS s a j).1) ∧ SpPost B w w' b m s (giveS s a j).2 := by
 have hX := h
 obtain ⟨h0, F, V, hs⟩ := h
 by_cases hno : j < 1 ∨ a < 0 ∨ (s.cells : Int) - j < a
 ·have e1 : giveS s a j = (1, s) := if_pos hno
  rw [e1]
  exact (give_no hs a j ha1 ha2 hj1 hj2 hno).mono fun e w' ⟨h1, h2⟩ => ⟨h1, SpPost.same hX h2⟩
 ·obtain ⟨x, hx⟩ : ∃ x, x = a.toNat := ⟨_, rfl⟩
  obtain ⟨k, hk⟩ : ∃ k, k = j.toNat := ⟨_, rfl⟩
  have ea : a = (x : Int) := by omega
  have ej : j = (k : Int) := by omega
  have e1 : giveS s a j = if hasL x (x + k) (s.S 1) then (0, s.mv 1 2 x (x + k)) else (7, s) := by
   unfold giveS
   rw [if_neg hno, ← hx, ← hk]
  rw [e1, ea, ej]
  refine (give_sp hs h0 (by decide) x k (by omega) (by omega)).mono fun e w' ⟨h1, F', V', h2, h3⟩ => ?_
  cases hh : hasL x (x + k) (s.S 1) with
  | true => rw [hh] at h1 h2; exact ⟨h1, SpPost.of h0 hs h3 h2⟩
  | false => rw [hh] at h1 h2; exact ⟨h1, SpPost.of h0 hs h3 h2⟩
theorem settle_x (h : SpX B w b m s) : Calls Tryz.prog 69 #[.pointer (some ⟨b, 0, none⟩)] w fun e w' => e = .returned (.int .i64 (cnt (s.S 2) : Int)) ∧ SpPost B w w' b m s s.settled := by
 obtain ⟨h0, F, V, hs⟩ := h
 refine (settle_sp hs h0).mono fun e w' ⟨h3, F', V', h4, h5⟩ => ⟨h3, SpPost.of h0 hs h5 h4⟩
end
section
variable {B : Nat} {w w' : World} {p a r sp m : Nat} {lk : Int} {v : Value} {S : St}
theorem StoV.spc_ (h : StoV B w p a r sp m lk v S) {s' : SS} (hp : SpPost B w w' sp m S.ss s') : StoV B w' p a r sp m lk v { S with ss := s' } ∧ KeepT B w w' := by
 obtain ⟨F, V, h1, h2, h3⟩ := hp
 exact h.space h1 h2 h3
theorem sfree_any (w : World) (h : StoV B w p a r sp m 0 v S) :
  Calls Tryz.prog 8 #[.pointer (some ⟨p, 0, none⟩)] w fun e w' => e = .returned (.int .i64 ((cnt (S.ss.S 0) : Int) - (S.ss.kept : Int))) ∧ StoV B w' p a r sp m 0 v S ∧ KeepT B w w' := by
 have HE := Lib.hid (enter_any w h)
 clear h
 go_enter_defers Tryz.func8, Tryz.ntmps8
 go_wp2_with fail
 refine HE.out.mono ?_
 rintro e w1 ⟨rfl, h1, k1⟩
 have H1 := Lib.hid h1
 have K1 := Lib.hid (KeepT.mem k1)
 have c3 : w1.cell? ⟨p, 3, none⟩ = some (.pointer (some ⟨sp, 0, none⟩)) := h1.blk.cell 3
 have HF := Lib.hid (free_at h1.spc.a)
 clear h1 k1 HE
 go_wp2_with fail
 refine HF.out.mono ?_
 rintro e w2 ⟨rfl, _, b2⟩
 have h2 := H1.out.below b2
 have K2 := Lib.hid (K1.out.new b2 H1.out.le)
 have HU := Lib.hid (fun u => unlock_deferred ⟨p, 1, none⟩ u w2 (h2.blk.cell 1) (h2.blk.frozen 1))
 have HP := Lib.hid (h2.put (i := 1) (u := .int .i32 0) (lk' := 0) (S' := S) rfl rfl rfl rfl rfl)
 clear h2 b2 HF c3
 obtain ⟨z, hz⟩ : ∃ z, z = ((cnt (S.ss.S 0) : Int) - (S.ss.kept : Int)) := ⟨_, rfl⟩
 rw [← hz]
 have HZ := Lib.hid hz
 clear hz
 go_wp2_with fail
 refine leaves_cons (f := 27) (args := #[.pointer (some ⟨p, 1, none⟩)]) (by simp) (by simp [go_sem]) ?_
 refine (HU.out _).mono ?_
 rintro e u' w4 ⟨rfl, rfl, rfl⟩
 simp [Leaves, settle, results, Tryz.results8]
 exact ⟨HZ.out, HP.out.1, K2.out.trans (KeepT.mem HP.out.2)⟩
theorem ssettle_any (w : World) (h : StoV B w p a r sp m 0 v S) :
  Calls Tryz.prog 24 #[.pointer (some ⟨p, 0, none⟩)] w fun e w' => e = .returned (.int .i64 (cnt (S.ss.S 2) : Int)) ∧ StoV B w' p a r sp m 0 v { S with ss := S.ss.settled } ∧ KeepT B w w' := by
 have HE := Lib.hid (enter_any w h)
 clear h
 go_enter_defers Tryz.func24, Tryz.ntmps24
 go_wp2_with fail
 refine HE.out.mono ?_
 rintro e w1 ⟨rfl, h1, k1⟩
 have H1 := Lib.hid h1
 have K1 := Lib.hid (KeepT.mem k1)
 have c3 : w1.cell? ⟨p, 3, none⟩ = some (.pointer (some ⟨sp, 0, none⟩)) := h1.blk.cell 3
 have HF := Lib.hid (settle_x h1.spc)
 clear h1 k1 HE
 go_wp2_with fail
 refine HF.out.mono ?_
 rintro e w2 ⟨rfl, p2⟩
 obtain ⟨h2, k2⟩ := H1.out.spc_ p2
 have K2 := Lib.hid (K1.out.trans k2)
 have HU := Lib.hid (fun u => unlock_deferred ⟨p, 1, none⟩ u w2 (h2.blk.cell 1) (h2.blk.frozen 1))
 have HP := Lib.hid (h2.put (i := 1) (u := .int .i32 0) (lk' := 0) (S' := { S with ss := S.ss.settled }) rfl rfl rfl rfl rfl)
 clear h2 p2 k2 HF c3
 obtain ⟨z, hz⟩ : ∃ z, z = cnt (S.ss.S 2) := ⟨_, rfl⟩
 rw [← hz]
 have HZ := Lib.hid hz
 clear hz
 go_wp2_with fail
 refine leaves_cons (f := 27) (args := #[.pointer (some ⟨p, 1, none⟩)]) (by simp) (by simp [go_sem]) ?_
 refine (HU.out _).mono ?_
 rintro e u' w4 ⟨rfl, rfl, rfl⟩
 simp [Leaves, settle, results, Tryz.results24]
 exact ⟨by rw [HZ.out], HP.out.1, K2.out.trans (KeepT.mem HP.out.2)⟩
end
end Sto
end Go.Proofs.YtgbehfkimchglaaGreatDoor
namespace Go.Proofs.YtgbehfkimchglaaGreatDoor
open Go Go.RowKit refRack
set_option maxRecDepth 100000
set_option linter.unusedVariables false
namespace Sto
open Sp Arr
section
variable {B : Nat} {w w' : World} {a r f : Nat} {s : RS}
theorem Spc.lower {w : World} {b m n B B' : Nat} {F : Nat → Option Value} {V : Nat → Value} {t : SS} (h : Spc w B b m n F V t) (hB : B' ≤ B) : Spc w B' b m n F V t :=
 ⟨⟨h.mem.blk, h.mem.map, h.mem.val, fun k hk => (h.mem.own k hk).base_ hB, h.mem.apart, ⟨Nat.le_trans hB h.mem.lo.1, Nat.le_trans hB h.mem.lo.2⟩⟩, h.good⟩
def new0 (s : RS) (f tx : Nat) : St := ⟨s, f, allFree (Arr.cells s f), tx, [], 0, 0, 0, 0⟩
set_option maxHeartbeats 1600000 in
theorem stonew_any (w : World) (h : Arr.At B w a r f s) (tx : Nat) (h1 : 1 ≤ tx) (h2 : tx ≤ 1000000000) (hc1 : 1 ≤ Arr.cells s f) :
  Calls Tryz.prog 19 #[.pointer (some ⟨a, 0, none⟩), .slice none 0 0, .int .i64 (tx : Int)] w fun e w' => ∃ p sp m, e = .returned (.tuple #[.pointer (some ⟨p, 0, none⟩), .int .i64 0]) ∧ StoV B w' p a r sp m 0 (.slice none 0 0) (new0 s f tx) ∧ Below w.heap.size w w' := by
 have t1 : ¬ ((tx : Int) < 1) := by omega
 have HC := Lib.hid (cells_any w h)
 have hcm := cells_le h
 have HN : Hid (∀ d, Calls Tryz.prog 58 #[.int .i64 ((Arr.cells s f : Nat) : Int), .slice none 0 0] (w.drewN d) fun er w' => ∃ b m F V, er = .returned (.tuple #[.pointer (some ⟨b, 0, none⟩), .int .i64 0]) ∧ Spc w' (w.drewN d).heap.size b m 1 F V (allFree (Arr.cells s f)) ∧ Below (w.drewN d).heap.size (w.drewN d) w') := Lib.hid fun d => new_nil (w.drewN d) (Arr.cells s f) hc1 (by omega)
 have HA := Lib.hid h
 clear h hc1 hcm
 go_enter Tryz.func19, Tryz.ntmps19
 go_wp2_with fail
 refine HC.out.mono ?_
 rintro e w1 ⟨rfl, d, rfl⟩
 go_wp2_with fail
 refine (HN.out d).mono ?_
 rintro e w2 ⟨b, m, F, V, rfl, h3, h4⟩
 have h5 : Below w.heap.size w w2 := (below_drewN (Below.refl _ _) d).trans h4
 have H3 := Lib.hid h3
 have H5 := Lib.hid h5
 clear h3 h4 h5
 go_wp2_with fail
 go_ret2
 have hle : B ≤ w2.heap.size := Nat.le_trans HA.out.rack.le H5.out.size
 have hX : SpX B w2 b m (allFree (Arr.cells s f)) := ⟨hle, F, V, ⟨(Spc.lower H3.out (Nat.le_trans HA.out.rack.le (by simp))).mem.three, H3.out.good⟩⟩
 have hb := (Below.refl w2.heap.size w2).alloc (Nat.le_refl _) (.cells (stA a b 0 tx (.slice none 0 0) 0 0 0 0) 103)
 refine ⟨w2.heap.size, b, m, rfl, ⟨(HA.out.grown_ H5.out).grown_ hb, hX.below hb, ?_, ⟨Gr.OwnG.nil _ _, fun x hx => by cases hx⟩, hle⟩, H5.out.trans (hb.mono H5.out.size)⟩
 exact Blk.new _ _ _
end
end Sto
end Go.Proofs.YtgbehfkimchglaaGreatDoor
namespace Go.Proofs.YtgbehfkimchglaaGreatDoor
open Go Go.RowKit
set_option maxRecDepth 100000
set_option linter.unusedVariables false
section
variable {P : Program} {md : Region.Mode} {ops : Array Oper} {Q : Exit → Act → World → Prop} {S S' : World → Prop} {z : Nat}
theorem twoG {i j n : Nat} {op1 op2 : Op} {d1 d2 : Option Tmp} {listed : Array Bool} {a : Act} {w : World} (ho1 : isOp ops i = some (op1, d1, none)) (ho2 : isOp ops j = some (op2, d2, none)) (hr : Region.ready md ops listed = [i, j])
  (h1 : ∀ o : Oper, o.op = op1 → o.dst = d1 → o.wp P a w (fun a' w' => (i ≠ z → S w') ∧ AnyZ P md ops Q S z n (listed.setIfInBounds i true) a' w') Q)
  (h2 : ∀ o : Oper, o.op = op2 → o.dst = d2 → o.wp P a w (fun a' w' => (j ≠ z → S w') ∧ AnyZ P md ops Q S z n (listed.setIfInBounds j true) a' w') Q) : AnyZ P md ops Q S z (n + 1) listed a w := by
 obtain ⟨o1, a1, a2, a3, a4⟩ := isOp_spec ho1
 obtain ⟨o2, b1, b2, b3, b4⟩ := isOp_spec ho2
 exact AnyZ.two hr (wpOp_op a1 a4 (h1 o1 a2 a3)) (wpOp_op b1 b4 (h2 o2 b2 b3))
end
end Go.Proofs.YtgbehfkimchglaaGreatDoor
