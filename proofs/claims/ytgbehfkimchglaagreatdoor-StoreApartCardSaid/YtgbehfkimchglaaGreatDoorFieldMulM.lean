/-
 Words for memory, with no program in sight: a block that is known whole, what turns one block alone, and the cells of a field before, while and after its tables are worked out. No conditions beyond those that each theorem types.
-/
import Derived.Below
import Derived.Laws.OwnMore
import Derived.Deep.Draws
import Derived.Laws.Rows
import Derived.Laws.AppendOwn
import Derived.Deep.OwnRows
import Derived.OwnWalk
import Derived.Test.YtgbehfkimchglaaGreatDoorArrMathM
import Derived.Test.YtgbehfkimchglaaGreatDoorRackMapM
import Derived.Test.YtgbehfkimchglaaGreatDoorRows
import Derived.WalkKit
import Derived.Defers
import Derived.Laws.Pointers
import Derived.Laws.LoneSync
import Derived.RegionTactic
import Derived.RegionCalls
import Derived.ChangeAlike
import Derived.Laws.BitsLemmas
import Derived.Lib.Hide
import Derived.Laws.NewBlocks
import Derived.Deep.QuietTactic
import Derived.BigQuiet
namespace Go.Proofs.YtgbehfkimchglaaGreatDoor
set_option maxRecDepth 100000
open Go.RowKit
section
variable {w w' : World} {g : Nat} {t : TypeId} {cs : Array Value}
end
section
variable {a b c w w' : World} {g : Nat}
end
/-! ### the field's cells -/
def fcell (d s : Int) (k i : Nat) : Value :=
 if i = 0 then .int .u32 d else if i = 1 then .int .i32 s else if i = 2 then .int .u32 0
 else if i < 258 then .int .u8 (((if i - 3 < k then M.pw (i - 3) else 0 : Nat)) : Int) else .int .u8 ((M.lgTo k (i - 258) : Nat) : Int)
def fcells (d s : Int) (k : Nat) : Array Value := Array.ofFn (n := 514) fun i => fcell d s k i.val
theorem fcells_size (d s : Int) (k : Nat) : (fcells d s k).size = 514 := by simp [fcells]
theorem fcells_get (d s : Int) (k i : Nat) (h : i < 514) : (fcells d s k)[i]? = some (fcell d s k i) := by
 simp [fcells, h]
theorem fcells_done (d s : Int) (k : Nat) : (fcells d s k)[0]? = some (.int .u32 d) := by rw [fcells_get _ _ _ _ (by omega)]; rfl
theorem fcells_state (d s : Int) (k : Nat) : (fcells d s k)[1]? = some (.int .i32 s) := by rw [fcells_get _ _ _ _ (by omega)]; rfl
theorem fcells_pw (d s : Int) (k n : Nat) (h : n < 255) : (fcells d s k)[3 + n]? = some (.int .u8 (((if n < k then M.pw n else 0 : Nat)) : Int)) := by
 rw [fcells_get _ _ _ _ (by omega)]
 unfold fcell
 rw [if_neg (by omega), if_neg (by omega), if_neg (by omega), if_pos (by omega)]
 have e : 3 + n - 3 = n := by omega
 rw [e]
theorem fcells_lg (d s : Int) (k v : Nat) (h : v < 256) : (fcells d s k)[258 + v]? = some (.int .u8 ((M.lgTo k v : Nat) : Int)) := by
 rw [fcells_get _ _ _ _ (by omega)]
 unfold fcell
 rw [if_neg (by omega), if_neg (by omega), if_neg (by omega), if_neg (by omega)]
 have e : 258 + v - 258 = v := by omega
 rw [e]
theorem fcells_out (d s : Int) (k i : Nat) (h : ¬ i < 514) : (fcells d s k)[i]? = none := by
 rw [Array.getElem?_eq_none]; rw [fcells_size]; omega
theorem fcells_set (d s d' s' : Int) (k k' i : Nat) (u : Value) (hi : i < 514) (h : fcell d' s' k' i = u) (ho : ∀ j, j < 514 → j ≠ i → fcell d' s' k' j = fcell d s k j) :
  (fcells d s k).setIfInBounds i u = fcells d' s' k' := by
 apply Array.ext_getElem?
 intro j
 rw [Array.getElem?_setIfInBounds, fcells_size]
 by_cases hj : j < 514
 ·rw [fcells_get _ _ _ _ hj, fcells_get _ _ _ _ hj]
  by_cases e : i = j
  ·subst e; rw [if_pos rfl, if_pos hi, h]
  ·rw [if_neg e, ho j hj (fun e' => e e'.symm)]
 ·rw [fcells_out _ _ _ _ hj, fcells_out _ _ _ _ hj, if_neg (by omega)]
theorem fcells_set_done (d d' s : Int) (k : Nat) : (fcells d s k).setIfInBounds 0 (.int .u32 d') = fcells d' s k :=
 fcells_set d s d' s k k 0 _ (by omega) rfl fun j _ h => by unfold fcell; rw [if_neg h, if_neg h]
theorem fcells_set_state (d s s' : Int) (k : Nat) : (fcells d s k).setIfInBounds 1 (.int .i32 s') = fcells d s' k :=
 fcells_set d s d s' k k 1 _ (by omega) rfl fun j _ h => by unfold fcell; rw [if_neg h, if_neg h]
theorem fcells_round (d s : Int) (k : Nat) (hk : k < 255) :
  ((fcells d s k).setIfInBounds (3 + k) (.int .u8 ((M.pw k : Nat) : Int))).setIfInBounds (258 + M.pw k) (.int .u8 ((k : Nat) : Int)) = fcells d s (k + 1) := by
 have hlt := M.pw_lt hk
 apply Array.ext_getElem?
 intro i
 rw [Array.getElem?_setIfInBounds, Array.getElem?_setIfInBounds, Array.size_setIfInBounds, fcells_size]
 by_cases hi : i < 514
 ·rw [fcells_get _ _ _ _ hi, fcells_get _ _ _ _ hi]
  unfold fcell
  by_cases ha : 258 + M.pw k = i
  ·rw [if_pos ha, if_pos (by omega), if_neg (by omega), if_neg (by omega), if_neg (by omega), if_neg (by omega), M.lgTo_succ, if_pos (by omega)]
  ·rw [if_neg ha]
   by_cases hb : 3 + k = i
   ·rw [if_pos hb, if_pos (by omega), if_neg (by omega), if_neg (by omega), if_neg (by omega), if_pos (by omega), if_pos (by omega)]
    have e : i - 3 = k := by omega
    rw [e]
   ·rw [if_neg hb]
    by_cases h0 : i = 0
    ·subst h0; rfl
    by_cases h1' : i = 1
    ·subst h1'; rfl
    by_cases h2' : i = 2
    ·subst h2'; rfl
    rw [if_neg h0, if_neg h1', if_neg h2', if_neg h0, if_neg h1', if_neg h2']
    by_cases hc : i < 258
    ·rw [if_pos hc, if_pos hc]
     by_cases hd : i - 3 < k
     ·rw [if_pos hd, if_pos (by omega)]
     ·rw [if_neg hd, if_neg (by omega)]
    ·rw [if_neg hc, if_neg hc, M.lgTo_succ, if_neg (by omega)]
 ·rw [fcells_out _ _ _ _ hi, fcells_out _ _ _ _ hi, if_neg (by omega), if_neg (by omega)]
end Go.Proofs.YtgbehfkimchglaaGreatDoor
namespace Go.Proofs.YtgbehfkimchglaaGreatDoor
set_option maxRecDepth 100000
open Go.RowKit
theorem disable (w : World) : (callFunc 136 #[]).run Tryz.prog w = .ok (.value (.tuple #[])) w := run_call_mark0 Tryz.func136 (by kernel_rfl) (by kernel_rfl) (by kernel_rfl) .disable (by kernel_rfl) w
theorem enable (w : World) : (callFunc 139 #[]).run Tryz.prog w = .ok (.value (.tuple #[])) w := run_call_mark0 Tryz.func139 (by kernel_rfl) (by kernel_rfl) (by kernel_rfl) .enable (by kernel_rfl) w
theorem acquire (a : Addr) (w : World) : (callFunc 188 #[.pointer (some a)]).run Tryz.prog w = .ok (.value (.tuple #[])) w := run_call_marked Tryz.func188 (by kernel_rfl) (by kernel_rfl) (by kernel_rfl) .acquire (by kernel_rfl) a w
theorem releaseMerge (a : Addr) (w : World) : (callFunc 135 #[.pointer (some a)]).run Tryz.prog w = .ok (.value (.tuple #[])) w := run_call_marked Tryz.func135 (by kernel_rfl) (by kernel_rfl) (by kernel_rfl) .releaseMerge (by kernel_rfl) a w
theorem store_deferred (a : Addr) (x : Value) (u : FrameMode) (w : World) (hc : w.cell? a = some x) (hz : w.frozen? a = false) :
  CallsD Tryz.prog 279 #[.pointer (some a), .bool true] u w fun e u' w' => u' = u ∧ (e = .returned (.tuple #[]) ∧ w' = w.drew.setCell a (.int .u32 1)) := by
 have hc' : w.drew.cell? a = some x := by go_simp
 have hz' : w.drew.frozen? a = false := by go_simp
 have hst := run_call_store (P := Tryz.prog) Tryz.func280 (by kernel_rfl) (by kernel_rfl) (by kernel_rfl) (by kernel_rfl) (k := .u32) (y := 1) hc' hz'
 go_enter_d Tryz.func279, Tryz.ntmps279
 go_wp2
 go_region_calls
 all_goals (go_end0; exact ⟨rfl, rfl⟩)
set_option maxRecDepth 100000 in
theorem unlock_deferred (a : Addr) (u : FrameMode) (w : World) (hc : w.cell? a = some (.int .i32 1)) (hz : w.frozen? a = false) :
  CallsD Tryz.prog 27 #[.pointer (some a)] u w fun e u' w' => u' = u ∧ (e = .returned (.tuple #[]) ∧ w' = w.setCell a (.int .i32 0)) := by
 have hd := disable
 have he := enable
 have hr := releaseMerge
 have hadd := run_call_add (P := Tryz.prog) Tryz.func137 (by kernel_rfl) (by kernel_rfl) (by kernel_rfl) .i32 (by kernel_rfl) (y := -1) (s := 0) hc hz (by simp [go_sem]; rfl)
 have hcv := run_convert_to_unsafe (P := Tryz.prog) (src := 218) (dst := 220) Tryz.underlying218 Tryz.underlying220 (by kernel_rfl) hc
 go_enter_d Tryz.func27, Tryz.ntmps27
 go_wp2
 go_end0
 go_wp2
 go_end0
 exact ⟨rfl, rfl⟩
set_option maxRecDepth 100000 in
theorem lock_free (a : Addr) (w : World) (hc : w.cell? a = some (.int .i32 0)) (hz : w.frozen? a = false) :
  Calls Tryz.prog 75 #[.pointer (some a)] w fun e w' => e = .returned (.tuple #[]) ∧ w' = w.setCell a (.int .i32 1) := by
 have hd := disable
 have he := enable
 have ha := acquire
 have hcas := run_call_cas_hit (P := Tryz.prog) Tryz.func187 (by kernel_rfl) (by kernel_rfl) (by kernel_rfl) .i32 (by kernel_rfl) (y := 1) hc hz
 have hc' : (w.setCell a (.int .i32 1)).cell? a = some (.int .i32 1) := World.cell?_setCell_same w a _ hc
 have hcv := run_convert_to_unsafe (P := Tryz.prog) (src := 218) (dst := 220) Tryz.underlying218 Tryz.underlying220 (by kernel_rfl) hc'
 go_enter Tryz.func75, Tryz.ntmps75
 go_wp2
 first | go_end0 | (simp only [Exit.inBlock, Exit.then]; refine bodyPost_ret (results_none rfl _ _ _) rfl ?_) | refine bodyPost_ret (results_none rfl _ _ _) rfl ?_
 go_wp2
 go_end0
 exact ⟨rfl, rfl⟩
end Go.Proofs.YtgbehfkimchglaaGreatDoor
namespace Go.Proofs.YtgbehfkimchglaaGreatDoor
open Go.RowKit
set_option maxRecDepth 100000
theorem ofInt_i64 (a : Nat) (ha : a < 9223372036854775808) : (BitVec.ofInt 64 (a : Int)).toNat = a := by
 rw [BitVec.ofInt_natCast, BitVec.toNat_ofNat]; exact Nat.mod_eq_of_lt (by omega)
theorem i64_xor_nat (a b : Nat) (ha : a < 9223372036854775808) (hb : b < 9223372036854775808) : bits .xor .i64 (a : Int) (b : Int) = ((a ^^^ b : Nat) : Int) := by
 have hx : a ^^^ b < 2 ^ 63 := Nat.xor_lt_two_pow (by omega) (by omega)
 show IntKind.i64.wrap ((BitVec.ofInt 64 (a : Int) ^^^ BitVec.ofInt 64 (b : Int)).toNat : Int) = _
 rw [BitVec.toNat_xor, ofInt_i64 a ha, ofInt_i64 b hb, IntKind.wrap_i64]
 omega
set_option maxRecDepth 100000 in
set_option maxHeartbeats 400000 in
theorem fill_any (b : Nat) (d s : Int) (w : World) (hb : Blk w b 284 (fcells d s 0)) :
  Calls Tryz.prog 270 #[.pointer (some ⟨b, 0, none⟩)] w fun e w' => e = .returned (.tuple #[]) ∧ Blk w' b 284 (fcells d s 255) ∧ Only b w w' := by
 go_enter Tryz.func270, Tryz.ntmps270
 go_wp2
 go_loopw [2, 4] (fun x i wr => ∃ k : Nat, k ≤ 255 ∧ i = .int .i64 k ∧ x = .int .i64 (M.pw k : Nat) ∧ Blk wr b 284 (fcells d s k) ∧ Only b w wr) (fun _ i _ => 255 - (intOf i).toNat)
 case atStart => exact ⟨0, by omega, rfl, rfl, hb, Only.refl _ _⟩
 case round =>
  obtain ⟨k, hk, rfl, rfl, hbk, hok⟩ := hrel
  by_cases hlt : k < 255
  ·have hx := M.pw_lt hlt
   have hx1 := M.pw_pos hlt
   have c1 : wr.cell? ⟨b, 3 + k, none⟩ = some (.int .u8 0) := by rw [hbk.cell, fcells_pw _ _ _ _ hlt, if_neg (by omega)]; rfl
   have c2 : wr.cell? ⟨b, 258 + M.pw k, none⟩ = some (.int .u8 ((M.lgTo k (M.pw k) : Nat) : Int)) := by rw [hbk.cell, fcells_lg _ _ _ _ hx]
   have z1 : wr.frozen? ⟨b, 3 + k, none⟩ = false := hbk.frozen _
   have z2 : wr.frozen? ⟨b, 258 + M.pw k, none⟩ = false := hbk.frozen _
   have hb2 := (hbk.set_ (3 + k) (.int .u8 ((M.pw k : Nat) : Int))).set_ (258 + M.pw k) (.int .u8 ((k : Nat) : Int))
   rw [fcells_round d s k hlt] at hb2
   have HB := Lib.hid hb2
   have HO := Lib.hid ((hok.setCell (3 + k) (.int .u8 ((M.pw k : Nat) : Int))).setCell (258 + M.pw k) (.int .u8 ((k : Nat) : Int)))
   have HS := Lib.hid (M.pw_succ k)
   clear hbk hb hok hb2
   generalize M.lgTo k (M.pw k) = old at *
   generalize M.pw k = x at *
   have h0 : (0 : Int) ≤ (k : Int) := by omega
   have hxx : (x : Int) * 2 ≤ 1000 := by omega
   by_cases hbig : 127 < x
   ·go_wp2
    go_roundw
    case rel =>
     refine ⟨k + 1, by omega, by go_num, ?_, HB.out, HO.out⟩
     rw [HS.out, M.xt, if_pos (by omega), ← i64_xor_nat _ _ (by omega) (by omega)]
     rfl
    case measure => simp [intOf]; omega
   ·go_wp2
    go_roundw
    case rel =>
     refine ⟨k + 1, by omega, by go_num, ?_, HB.out, HO.out⟩
     rw [HS.out, M.xt, if_neg (by omega)]
     rfl
    case measure => simp [intOf]; omega
  ·obtain rfl : k = 255 := by omega
   clear hb
   go_wp2
   go_end0
   exact ⟨rfl, hbk, hok⟩
end Go.Proofs.YtgbehfkimchglaaGreatDoor
namespace Go.Proofs.YtgbehfkimchglaaGreatDoor
open Go.RowKit
set_option maxRecDepth 100000
set_option maxRecDepth 100000 in
set_option maxHeartbeats 800000 in
theorem slow_any (b : Nat) (w : World) (hb : Blk w b 284 (fcells 0 0 0)) :
  Calls Tryz.prog 276 #[.pointer (some ⟨b, 0, none⟩), .func (.func 270) #[.pointer (some ⟨b, 0, none⟩)] #[]] w fun e w' => e = .returned (.tuple #[]) ∧ Blk w' b 284 (fcells 1 0 255) ∧ Only b w w' := by
 have hb1 : Blk (w.setCell ⟨b, 1, none⟩ (.int .i32 1)) b 284 (fcells 0 1 0) := by
  have h := hb.set_ 1 (.int .i32 1)
  rwa [fcells_set_state] at h
 have ho1 : Only b w (w.setCell ⟨b, 1, none⟩ (.int .i32 1)) := (Only.refl b w).setCell 1 _
 have h1 : w.cell? ⟨b, 1, none⟩ = some (.int .i32 0) := (hb.cell 1).trans (fcells_state _ _ _)
 have f1 : w.frozen? ⟨b, 1, none⟩ = false := hb.frozen 1
 have hl := run_call_load (P := Tryz.prog) Tryz.func278 (by kernel_rfl) (by kernel_rfl) (by kernel_rfl) .u32 (by kernel_rfl) (w := w.setCell ⟨b, 1, none⟩ (.int .i32 1)) (a := ⟨b, 0, none⟩) (x := 0) ((hb1.cell 0).trans (fcells_done _ _ _))
 have hnot : ∀ (x : Bool) (w : World), (Op.unary .not (.bool x)).run Tryz.prog w = .ok (.bool (!x)) w := fun _ _ => rfl
 go_enter_defers Tryz.func276, Tryz.ntmps276
 go_wp2_with (first | (go_at_call 75; refine (lock_free ⟨b, 1, none⟩ _ h1 f1).mono ?_; rintro e w' ⟨rfl, rfl⟩) | (go_at_call 275; go_in))
 refine (fill_any b 0 1 _ hb1).mono ?_
 rintro e w2 ⟨rfl, hb2, ho2⟩
 have ho : Only b w w2 := ho1.trans ho2
 clear hl ho1 ho2 hb1 h1 f1 hb
 go_wp2_with fail
 -- the door: two deferred calls, the last laid first
 refine leaves_cons (f := 279) (args := #[.pointer (some ⟨b, 0, none⟩), .bool true]) (by simp) (by simp [go_sem]) ?_
 refine (store_deferred ⟨b, 0, none⟩ (.int .u32 0) .returning _ ((hb2.cell 0).trans (fcells_done _ _ _)) (hb2.frozen 0)).mono ?_
 rintro e u' w3 ⟨rfl, rfl, rfl⟩
 have hb3 : Blk (w2.drew.setCell ⟨b, 0, none⟩ (.int .u32 1)) b 284 (fcells 1 1 255) := by
  have h := hb2.drew.set_ 0 (.int .u32 1)
  rwa [fcells_set_done] at h
 have ho3 : Only b w (w2.drew.setCell ⟨b, 0, none⟩ (.int .u32 1)) := ho.drew.setCell 0 _
 refine leaves_cons (f := 27) (args := #[.pointer (some ⟨b, 1, none⟩)]) (by simp [settle]) (by simp [go_sem]) ?_
 refine (unlock_deferred ⟨b, 1, none⟩ _ _ ((hb3.cell 1).trans (fcells_state _ _ _)) (hb3.frozen 1)).mono ?_
 rintro e u' w4 ⟨rfl, rfl, rfl⟩
 have hb4 : Blk ((w2.drew.setCell ⟨b, 0, none⟩ (.int .u32 1)).setCell ⟨b, 1, none⟩ (.int .i32 0)) b 284 (fcells 1 0 255) := by
  have h := hb3.set_ 1 (.int .i32 0)
  rwa [fcells_set_state] at h
 simp [Leaves, settle, results, Tryz.results276]
 exact ⟨hb4, ho3.setCell 1 _⟩
theorem do_first (b : Nat) (w : World) (hb : Blk w b 284 (fcells 0 0 0)) :
  Calls Tryz.prog 269 #[.pointer (some ⟨b, 0, none⟩), .func (.func 270) #[.pointer (some ⟨b, 0, none⟩)] #[]] w fun e w' => e = .returned (.tuple #[]) ∧ Blk w' b 284 (fcells 1 0 255) ∧ Only b w w' := by
 have hl := run_call_load (P := Tryz.prog) Tryz.func278 (by kernel_rfl) (by kernel_rfl) (by kernel_rfl) .u32 (by kernel_rfl) (w := w) (a := ⟨b, 0, none⟩) (x := 0) ((hb.cell 0).trans (fcells_done _ _ _))
 have hnot : ∀ (x : Bool) (w : World), (Op.unary .not (.bool x)).run Tryz.prog w = .ok (.bool (!x)) w := fun _ _ => rfl
 go_enter Tryz.func269, Tryz.ntmps269
 go_wp2_with (go_at_call 275; go_in)
 refine (slow_any b _ hb).mono ?_
 rintro e w2 ⟨rfl, hb2, ho2⟩
 clear hl hb
 go_wp2_with fail
 go_end0
 exact ⟨rfl, hb2, ho2⟩
theorem do_again (b : Nat) (fv : Value) (w : World) (hb : Blk w b 284 (fcells 1 0 255)) :
  Calls Tryz.prog 269 #[.pointer (some ⟨b, 0, none⟩), fv] w fun e w' => e = .returned (.tuple #[]) ∧ w = w' := by
 have hl := run_call_load (P := Tryz.prog) Tryz.func278 (by kernel_rfl) (by kernel_rfl) (by kernel_rfl) .u32 (by kernel_rfl) (w := w) (a := ⟨b, 0, none⟩) (x := 1) ((hb.cell 0).trans (fcells_done _ _ _))
 have hnot : ∀ (x : Bool) (w : World), (Op.unary .not (.bool x)).run Tryz.prog w = .ok (.bool (!x)) w := fun _ _ => rfl
 go_enter Tryz.func269, Tryz.ntmps269
 go_wp2_with (go_at_call 275; go_in)
 go_end0
 exact ⟨rfl, rfl⟩
theorem build_field (w : World) : (Sem.run Tryz.prog (zeroValue 284) w) = .ok (.agg (fcells 0 0 0)) w := by kernel_rfl
end Go.Proofs.YtgbehfkimchglaaGreatDoor
namespace Go.Proofs.YtgbehfkimchglaaGreatDoor
open Go.RowKit
set_option maxRecDepth 100000
def Fld (w : World) (b : Nat) : Prop := Blk w b 284 (fcells 0 0 0) ∨ Blk w b 284 (fcells 1 0 255)
theorem Fld.lt {w : World} {b : Nat} (h : Fld w b) : b < w.heap.size := by rcases h with h | h <;> exact h.lt
theorem Fld.alloc {w : World} {b : Nat} (h : Fld w b) (o : Obj) : Fld (w.alloc o) b := by
 rcases h with h | h
 ·exact .inl (h.alloc o)
 ·exact .inr (h.alloc o)
theorem Fld.far {w : World} {b : Nat} (h : Fld w b) {p : Addr} (hp : b ≠ p.block) (u : Value) : Fld (w.setCell p u) b := by
 rcases h with h | h
 ·exact .inl (h.far hp u)
 ·exact .inr (h.far hp u)
set_option maxHeartbeats 400000 in
theorem ready_some (b : Nat) (w : World) (hb : Fld w b) :
  Calls Tryz.prog 267 #[.pointer (some ⟨b, 0, none⟩)] w fun e w' => e = .returned (.pointer (some ⟨b, 0, none⟩)) ∧ Blk w' b 284 (fcells 1 0 255) ∧ Only b w w' := by
 have hmf : ∀ (fn : Fn) (first cap : Array Value) (w : World), (Instr.makeFunc fn first cap).run Tryz.prog w = .ok (.func fn first cap) w := fun _ _ _ _ => rfl
 rcases hb with hb | hb
 ·have HB := Lib.hid hb
  clear hb
  go_enter Tryz.func267, Tryz.ntmps267
  go_wp2_with fail
  refine (do_first b _ HB.out).mono ?_
  rintro e w2 ⟨rfl, hb2, ho2⟩
  have HB2 := Lib.hid hb2
  have HO := Lib.hid ho2
  clear hb2 ho2
  go_wp2_with fail
  go_ret
  exact ⟨rfl, HB2.out, HO.out⟩
 ·have HB := Lib.hid hb
  clear hb
  go_enter Tryz.func267, Tryz.ntmps267
  go_wp2_with fail
  refine (do_again b _ _ HB.out).mono ?_
  rintro e w2 ⟨rfl, rfl⟩
  go_wp2_with fail
  go_ret
  exact ⟨rfl, HB.out, Only.refl _ _⟩
theorem full_pw {w : World} {b : Nat} (hb : Blk w b 284 (fcells 1 0 255)) (n : Nat) (h : n < 255) : w.cell? ⟨b, 3 + n, none⟩ = some (.int .u8 ((M.pw n : Nat) : Int)) := by
 rw [hb.cell, fcells_pw _ _ _ _ h, if_pos h]
theorem full_lg {w : World} {b : Nat} (hb : Blk w b 284 (fcells 1 0 255)) (v : Nat) (h : v < 256) : w.cell? ⟨b, 258 + v, none⟩ = some (.int .u8 ((M.lg v : Nat) : Int)) := by
 rw [hb.cell, fcells_lg _ _ _ _ h]; rfl
def Ready (rcv : Value) (b : Nat) (w : World) (Post : World → Prop) : Prop :=
 Calls Tryz.prog 267 #[rcv] w fun e w' => e = .returned (.pointer (some ⟨b, 0, none⟩)) ∧ Blk w' b 284 (fcells 1 0 255) ∧ Post w'
set_option maxHeartbeats 400000 in
theorem mul_via (rcv : Value) (b : Nat) (x y : Nat) (hx : x < 256) (hy : y < 256) (w : World) (Post : World → Prop) (hready : Ready rcv b w Post) :
  Calls Tryz.prog 264 #[rcv, .int .u8 x, .int .u8 y] w fun e w' => e = .returned (.int .u8 (M.gmul x y : Nat)) ∧ (w = w' ∨ ∃ w2 n, w' = w2.drewN n ∧ Blk w2 b 284 (fcells 1 0 255) ∧ Post w2) := by
 have HREADY := Lib.hid hready
 clear hready
 by_cases h0 : x = 0
 ·subst h0
  go_enter Tryz.func264, Tryz.ntmps264
  go_wp2_with fail
  go_ret
  exact ⟨by rw [M.gmul_zero_left]; rfl, .inl rfl⟩
 by_cases h1 : y = 0
 ·subst h1
  have hxx : ((x : Int) == 0) = false := by simpa using h0
  go_enter Tryz.func264, Tryz.ntmps264
  go_wp2_with fail
  go_ret
  exact ⟨by rw [M.gmul_zero_right]; rfl, .inl rfl⟩
 have hxx : ((x : Int) == 0) = false := by simpa using h0
 have hyy : ((y : Int) == 0) = false := by simpa using h1
 go_enter Tryz.func264, Tryz.ntmps264
 go_wp2_with fail
 refine HREADY.out.mono ?_
 rintro e w2 ⟨rfl, hb2, ho2⟩
 have HG := Lib.hid (show M.gmul x y = M.pw ((M.lg x + M.lg y) % 255) from if_neg (by omega))
 have HF := Lib.hid hb2
 have HO := Lib.hid ho2
 have c1 := full_lg hb2 x hx
 have c2 := full_lg hb2 y hy
 have p1 := M.lg_lt hx h0
 have p2 := M.lg_lt hy h1
 have c3 := full_pw hb2 ((M.lg x + M.lg y) % 255) (Nat.mod_lt _ (by omega))
 clear hb2 ho2 HREADY
 generalize M.lg x = p at *
 generalize M.lg y = q at *
 generalize hr : (p + q) % 255 = r at *
 have e1 : IntKind.i64.wrap ((p : Int) + (q : Int)) = (p : Int) + (q : Int) := by rw [IntKind.wrap_i64]; omega
 have e2 : ((p : Int) + (q : Int)).tmod 255 = (r : Int) := by rw [Int.tmod_eq_emod_of_nonneg (by omega)]; omega
 have hr1 : r < 255 := by omega
 clear hr
 go_wp2_with fail
 go_quiet (fail)
 go_wp2_with fail
 go_ret
 exact ⟨by rw [HG.out]; rfl, .inr ⟨w2, _, rfl, HF.out, HO.out⟩⟩
def powR (x : Nat) (n : Int) : Nat := if n < 0 then 0 else M.gpow x n.toNat
set_option maxHeartbeats 400000 in
theorem pow_via (rcv : Value) (b : Nat) (x : Nat) (n : Int) (hx : x < 256) (hn : -9223372036854775808 ≤ n ∧ n ≤ 9223372036854775807) (w : World) (Post : World → Prop) (hready : Ready rcv b w Post) :
  Calls Tryz.prog 265 #[rcv, .int .u8 x, .int .i64 n] w fun e w' => e = .returned (.tuple #[.int .u8 (powR x n : Nat), .int .i64 (if n < 0 then 1 else 0)]) ∧ (w = w' ∨ ∃ w2 n, w' = w2.drewN n ∧ Blk w2 b 284 (fcells 1 0 255) ∧ Post w2) := by
 have HREADY := Lib.hid hready
 clear hready
 obtain ⟨hn1, hn2⟩ := hn
 by_cases hneg : n < 0
 ·have HP := Lib.hid (show powR x n = 0 from if_pos hneg)
  rw [HP.out, if_pos hneg]
  go_enter Tryz.func265, Tryz.ntmps265
  go_wp2_with fail
  go_ret2
  exact ⟨rfl, .inl rfl⟩
 rw [if_neg hneg]
 by_cases hz : n = 0
 ·subst hz
  go_enter Tryz.func265, Tryz.ntmps265
  go_wp2_with fail
  go_ret2
  exact ⟨rfl, .inl rfl⟩
 have hnz : (n == 0) = false := by simpa using hz
 have HPG := Lib.hid (show powR x n = M.gpow x n.toNat from if_neg hneg)
 by_cases h0 : x = 0
 ·subst h0
  have HP := Lib.hid (show M.gpow 0 n.toNat = 0 by rw [M.gpow, if_neg (by omega), if_pos rfl])
  go_enter Tryz.func265, Tryz.ntmps265
  go_wp2_with fail
  go_ret2
  exact ⟨by rw [HPG.out, HP.out]; rfl, .inl rfl⟩
 have hxx : ((x : Int) == 0) = false := by simpa using h0
 have hpos : 0 ≤ n := by omega
 go_enter Tryz.func265, Tryz.ntmps265
 go_wp2_with fail
 refine HREADY.out.mono ?_
 rintro e w2 ⟨rfl, hb2, ho2⟩
 have HG := Lib.hid (show M.gpow x n.toNat = M.pw (M.lg x * (n.toNat % 255) % 255) by rw [M.gpow, if_neg (by omega), if_neg h0])
 have HF := Lib.hid hb2
 have HO := Lib.hid ho2
 have c1 := full_lg hb2 x hx
 have p1 := M.lg_lt hx h0
 have c3 := full_pw hb2 (M.lg x * (n.toNat % 255) % 255) (Nat.mod_lt _ (by omega))
 clear hb2 ho2 HREADY
 generalize M.lg x = p at *
 have e0 : n.tmod 255 = ((n.toNat % 255 : Nat) : Int) := by rw [Int.tmod_eq_emod_of_nonneg (by omega)]; omega
 have hm : n.toNat % 255 < 255 := Nat.mod_lt _ (by omega)
 generalize n.toNat % 255 = m at *
 have hpm : p * m ≤ 254 * 254 := Nat.mul_le_mul (by omega) (by omega)
 have e1 : IntKind.i64.wrap ((p : Int) * (m : Int)) = (p : Int) * (m : Int) := by rw [← Int.natCast_mul, IntKind.wrap_i64]; omega
 have hr1 : p * m % 255 < 255 := Nat.mod_lt _ (by omega)
 have e2 : ((p : Int) * (m : Int)).tmod 255 = ((p * m % 255 : Nat) : Int) := by rw [← Int.natCast_mul, Int.tmod_eq_emod_of_nonneg (by omega)]; omega
 generalize p * m % 255 = r at *
 clear hpm
 go_wp2_with fail
 go_quiet (fail)
 go_wp2_with fail
 go_ret2
 exact ⟨by rw [HPG.out, HG.out]; rfl, .inr ⟨w2, _, rfl, HF.out, HO.out⟩⟩
/-! ### at a field, at none -/
theorem some_ready {b : Nat} {w : World} (hb : Fld w b) : Ready (.pointer (some ⟨b, 0, none⟩)) b w (Only b w) := (ready_some b w hb).mono fun _ _ h => h
theorem via_some {b : Nat} {w w' : World} (hb : Fld w b) (h : w = w' ∨ ∃ w2 n, w' = w2.drewN n ∧ Blk w2 b 284 (fcells 1 0 255) ∧ Only b w w2) : Fld w' b ∧ Only b w w' := by
 rcases h with rfl | ⟨w2, n, rfl, h1, h2⟩
 ·exact ⟨hb, Only.refl _ _⟩
 ·exact ⟨.inr (h1.drewN n), h2.drewN n⟩
theorem mul_some {b x y : Nat} (hx : x < 256) (hy : y < 256) {w : World} (hb : Fld w b) :
  Calls Tryz.prog 264 #[.pointer (some ⟨b, 0, none⟩), .int .u8 x, .int .u8 y] w fun e w' => e = .returned (.int .u8 (M.gmul x y : Nat)) ∧ Fld w' b ∧ Only b w w' :=
 (mul_via _ b x y hx hy w _ (some_ready hb)).mono fun _ _ ⟨he, h⟩ => ⟨he, via_some hb h⟩
theorem pow_some {b x : Nat} {n : Int} (hx : x < 256) (hn : -9223372036854775808 ≤ n ∧ n ≤ 9223372036854775807) {w : World} (hb : Fld w b) :
  Calls Tryz.prog 265 #[.pointer (some ⟨b, 0, none⟩), .int .u8 x, .int .i64 n] w fun e w' => e = .returned (.tuple #[.int .u8 (powR x n : Nat), .int .i64 (if n < 0 then 1 else 0)]) ∧ Fld w' b ∧ Only b w w' :=
 (pow_via _ b x n hx hn w _ (some_ready hb)).mono fun _ _ ⟨he, h⟩ => ⟨he, via_some hb h⟩
/-! ### the same, the answer under a name -/
theorem pow_at {b x r : Nat} {n : Int} (h0 : 0 ≤ n) (hr : M.gpow x n.toNat = r) (hx : x < 256) (hn : n ≤ 9223372036854775807) {w : World} (hb : Fld w b) :
  Calls Tryz.prog 265 #[.pointer (some ⟨b, 0, none⟩), .int .u8 x, .int .i64 n] w fun e w' => e = .returned (.tuple #[.int .u8 (r : Nat), .int .i64 0]) ∧ Fld w' b ∧ Only b w w' := by
 have h := pow_some (n := n) hx ⟨by omega, hn⟩ hb
 rw [powR, if_neg (by omega), if_neg (by omega), hr] at h
 exact h
end Go.Proofs.YtgbehfkimchglaaGreatDoor
