/-
 A block of numbers of 64 bits, told by a function. No conditions beyond those that each theorem types.
-/
import Derived.Test.YtgbehfkimchglaaGreatDoorRackMapM
import Derived.Laws.MakeOwn
import Derived.Test.YtgbehfkimchglaaGreatDoorSpcPartM
import Derived.Test.YtgbehfkimchglaaGreatDoorArrMathM
import Derived.Test.YtgbehfkimchglaaGreatDoorRackPowerM
import Derived.Shelf.Sort.Plain
import Derived.Shelf.Slices.In.SortNone
import Derived.Shelf.Slices.Turned
import Derived.Shelf.Slices.CompactI
import Derived.Shelf.SlIterI.Sorted
import Derived.Test.YtgbehfkimchglaaGreatDoorProg
namespace Go.Proofs.YtgbehfkimchglaaGreatDoor
open Go Go.RowKit
set_option maxRecDepth 100000
set_option linter.unusedVariables false
namespace Ir
theorem info_int : (Tryz.prog.info? 3).map (fun i => (i.zero, i.size, i.bytes)) = some (some (.int .i64 0), 1, 8) := by kernel_rfl
def intA (n : Nat) (f : Nat → Int) : Array Value := Array.ofFn (n := n) fun c => .int .i64 (f c.val)
theorem intA_get {n : Nat} {f : Nat → Int} {c : Nat} (h : c < n) : (intA n f)[c]? = some (.int .i64 (f c)) := by simp [intA, h]
theorem intA_set {n : Nat} {f : Nat → Int} {c : Nat} {v : Int} (h : c < n) : (intA n f).setIfInBounds c (.int .i64 v) = intA n (fun j => if j = c then v else f j) := by
 apply Array.ext_getElem?
 intro j
 rw [Array.getElem?_setIfInBounds]
 have hs : (intA n f).size = n := by simp [intA]
 rw [hs]
 by_cases hj : j < n
 ·rw [intA_get hj, intA_get hj]
  by_cases e : c = j
  ·rw [if_pos e, if_pos h, if_pos e.symm]
  ·rw [if_neg e, if_neg (fun x => e x.symm)]
 ·rw [if_neg (by omega), Array.getElem?_eq_none (by rw [hs]; omega), Array.getElem?_eq_none (by simp [intA]; omega)]
theorem replicate_ints (n : Nat) : Array.replicate n (Value.int .i64 0) = intA n (fun _ => 0) := by
 apply Array.ext_getElem?
 intro i
 by_cases h : i < n
 ·rw [intA_get h]; simp [h]
 ·rw [Array.getElem?_eq_none (by simp; omega), Array.getElem?_eq_none (by simp [intA]; omega)]
theorem make_ints (n : Nat) (hn : n ≤ 70000) (w : World) (l : Int) (hl : l = (n : Int)) :
  (Instr.makeSlice 64 (.int .i64 l) (.int .i64 l)).run Tryz.prog w = .ok (.slice (some ⟨w.heap.size, 0, none⟩) n n) (w.alloc (.cells (intA n (fun _ => 0)) 3)) := by
 subst hl
 obtain ⟨i0, hi, hz0, hz1, hz2⟩ := info_parts info_int
 have h := run_make (P := Tryz.prog) (w := w) 64 3 i0 (.int .i64 0) Tryz.underlying64 hi hz0 .i64 .i64 (n : Int) (n : Int) (by omega) (by omega) (by rw [hz2]; omega) (by omega)
 rw [h, hz1, Int.toNat_natCast, Nat.mul_one]
 show _ = _
 rw [show (Value.int .i64 0).cells = #[.int .i64 0] from rfl, madeCells_one, replicate_ints]
end Ir
end Go.Proofs.YtgbehfkimchglaaGreatDoor
namespace Go.Proofs.YtgbehfkimchglaaGreatDoor
open Go Go.RowKit
set_option maxRecDepth 100000
set_option linter.unusedVariables false
namespace Nr
def csN (x : Nat) : List Value := [.int .i64 (x : Int)]
abbrev OwnN (w : World) (base : Nat) (v : Value) (l : List Nat) : Prop := Gr.OwnG 3 1 csN w base v l
theorem sizeOf_int (w : World) : (sizeOf 3).run Tryz.prog w = .ok 1 w := by
 obtain ⟨i0, hi, hz0, hz1, hz2⟩ : ∃ i0, Tryz.prog.info? 3 = some i0 ∧ i0.zero = some (.int .i64 0) ∧ i0.size = 1 ∧ i0.bytes = 8 := info_parts Ir.info_int
 simp [sizeOf, typeInfo, hi, hz1]
def offL (c lo : Nat) : Nat := if c = lo then 0 else lo
theorem slice_from (b n c lo : Nat) (h : lo ≤ n) (w : World) :
  (Instr.sliceAt 64 (.slice (some ⟨b, 0, none⟩) n c) (some (.int .i64 (lo : Int))) none none).run Tryz.prog w = .ok (.slice (some ⟨b, offL c lo, none⟩) (n - lo) (c - lo)) w := by
 have hu : Tryz.prog.underlying 64 = some (.slice (Tryz.prog.elem 64)) := by kernel_rfl
 have he : Tryz.prog.elem 64 = 3 := by kernel_rfl
 rw [run_sliceAt_slice (P := Tryz.prog) (w := w) (h := hu), run_slice_l (P := Tryz.prog) (w := w) 64 _ n c hu .i64 (lo : Int) (by omega) (by omega), he, sizeOf_int]
 unfold offL
 by_cases e : c = lo
 ·subst e; simp [sliced]
 ·simp [sliced, e, add_plain]
section
variable {w w' : World} {base : Nat} {v : Value} {l m : List Nat}
theorem own_shape (h : OwnN w base v l) : (v = .slice none 0 0 ∧ l = []) ∨ ∃ g c, v = .slice (some ⟨g, 0, none⟩) l.length c ∧ base ≤ g ∧ g < w.heap.size ∧ l.length ≤ c ∧ c ≤ maxLen ∧ ∀ (i x : Nat), l[i]? = some x → w.cell? ⟨g, i, none⟩ = some (.int .i64 (x : Int)) := by
 have hs := h.shape (fun _ => rfl)
 rcases h.2 with ⟨h1, h2⟩ | ⟨g, cap, cur, h1, h2, h3, h4, h5, _⟩
 ·exact .inl ⟨h1, List.eq_nil_of_length_eq_zero h2⟩
 ·obtain ⟨A, c, e1, e2, e3, e4, e5, e6⟩ := hs
  rw [h1] at e1
  injection e1 with e1 e7 e8
  subst e1 e8
  refine .inr ⟨g, cap, h1, h2, (e6 g 0 none rfl).2, h4, h5, fun i x hx => ?_⟩
  obtain ⟨b, o, f1, f2, f3⟩ := e2 i x hx
  injection f1 with f1
  injection f1 with f1 f4
  subst f1 f4
  have := f3 0 _ rfl
  rw [Nat.mul_one, Nat.zero_add, Nat.add_zero] at this
  exact this
theorem flat_csN : ∀ m : List Nat, m.flatMap csN = m.map fun x : Nat => Value.int .i64 (x : Int)
 | [] => rfl
 | x :: m => by rw [List.flatMap_cons, List.map_cons, flat_csN m]; rfl
end
end Nr
end Go.Proofs.YtgbehfkimchglaaGreatDoor
namespace Go.Proofs.YtgbehfkimchglaaGreatDoor
open Go Go.RowKit refRack
set_option maxRecDepth 100000
set_option linter.unusedVariables false
namespace Arr
def arrA (r f : Nat) : Array Value := #[.pointer (some ⟨r, 0, none⟩), .int .i64 (f : Int)]
structure At (B : Nat) (w : World) (a r f : Nat) (s : RS) : Prop where
 rack : RackAt B w r s
 blk : Blk w a 131 (arrA r f)
 five : 5 ≤ s.nd
 first : f < s.ns
section
variable {B a r f : Nat} {w w' : World} {s s' : RS}
theorem At.c0 (h : At B w a r f s) : w.cell? ⟨a, 0, none⟩ = some (.pointer (some ⟨r, 0, none⟩)) := h.blk.cell 0
theorem At.c1 (h : At B w a r f s) : w.cell? ⟨a, 1, none⟩ = some (.int .i64 (f : Int)) := h.blk.cell 1
theorem At.drewN (h : At B w a r f s) (n : Nat) : At B (w.drewN n) a r f s := ⟨h.rack.drewN n, h.blk.drewN n, h.five, h.first⟩
theorem At.bounds (h : At B w a r f s) : s.nd ≤ 16 ∧ s.ns ≤ 2000 := ⟨h.rack.1.nd2, h.rack.1.ns2⟩
theorem At.grown_ (h : At B w a r f s) (hk : Below w.heap.size w w') : At B w' a r f s :=
 ⟨h.rack.below hk, h.blk.below hk h.blk.lt, h.five, h.first⟩
theorem At.rack_ (h : At B w a r f s) (hr : RackAt B w' r s') (hk : Keep B w w') (e1 : s'.nd = s.nd) (e2 : s'.ns = s.ns) : At B w' a r f s' :=
 ⟨hr, hk.block h.blk rfl, by rw [e1]; exact h.five, by rw [e2]; exact h.first⟩
def cells (s : RS) (f : Nat) : Nat := s.nd * (s.ns - f)
theorem cells_le (h : At B w a r f s) : cells s f ≤ 32000 := by
 obtain ⟨h1, h2⟩ := h.bounds
 have : s.nd * (s.ns - f) ≤ 16 * 2000 := Nat.mul_le_mul h1 (by omega)
 exact this
theorem new_ok (w : World) (h : RackAt B w r s) (h5 : 5 ≤ s.nd) (hf : f < s.ns) :
  Calls Tryz.prog 18 #[.pointer (some ⟨r, 0, none⟩), .int .i64 (f : Int)] w fun e w' => e = .returned (.tuple #[.pointer (some ⟨w.heap.size, 0, none⟩), .int .i64 0]) ∧ w' = w.alloc (.cells (arrA r f) 131) ∧ At B w' w.heap.size r f s ∧ Keep B w w' := by
 have HD := Lib.hid (drives_any w r s h)
 have HS := Lib.hid (sectors_any w r s h)
 have HA : Hid (At B (w.alloc (.cells (arrA r f) 131)) w.heap.size r f s) := ⟨h.alloc _, Blk.new _ _ _, h5, hf⟩
 have HK := Lib.hid ((Keep.refl B w).alloc h.le (.cells (arrA r f) 131))
 have t1 : ((s.nd : Int) < 5) = False := by simp; omega
 have t2 : ((s.ns : Int) ≤ (f : Int)) = False := by simp; omega
 have t3 : ((f : Int) < 0) = False := by simp
 go_enter Tryz.func18, Tryz.ntmps18
 go_wp2_with fail
 refine HD.out.mono ?_
 rintro e w' ⟨rfl, rfl⟩
 go_wp2_with fail
 refine HS.out.mono ?_
 rintro e w' ⟨rfl, rfl⟩
 go_wp2_with fail
 go_ret2
 exact ⟨rfl, rfl, HA.out, HK.out⟩
theorem none_any (w : World) (h : At B w a r f s) :
  Calls Tryz.prog 59 #[.pointer (some ⟨a, 0, none⟩)] w fun e w' => e = .returned (.bool false) ∧ w' = w := by
 have c0 := h.c0
 clear h
 go_enter Tryz.func59, Tryz.ntmps59
 go_wp2_with fail
 go_ret
 exact ⟨rfl, rfl⟩
theorem parts_any (w : World) (x y : Nat) (hx : x ≤ 100000) (hy : y ≤ 100000) (h0 : 0 < y) :
  Calls Tryz.prog 66 #[.int .i64 (x : Int), .int .i64 (y : Int)] w fun e w' => e = .returned (.int .i64 (((x + y - 1) / y : Nat) : Int)) ∧ w' = w := by
 obtain ⟨z, hz⟩ : ∃ z, z = x + y - 1 := ⟨_, rfl⟩
 have hd : z / y ≤ z := Nat.div_le_self _ _
 rw [← hz]
 have e1 : wrap64 ((x : Int) + (y : Int)) = ((z + 1 : Nat) : Int) := by unfold wrap64; omega
 have e1b : (x : Int) + (y : Int) = ((z + 1 : Nat) : Int) := by omega
 have e4 : ((y : Int) = 0) = False := by simp; omega
 have e5 : Hid (wrap64 ((z : Int) / (y : Int)) = ((z / y : Nat) : Int)) := by
  show _ = _
  rw [← Int.natCast_ediv]
  generalize z / y = q at *
  unfold wrap64
  omega
 have HZ := Lib.hid hz
 clear hz hd
 go_enter Tryz.func66, Tryz.ntmps66
 go_wp2_with fail
 go_ret
 refine ⟨?_, rfl⟩
 rw [← e5.out]
 rfl
theorem width_any (w : World) (h : At B w a r f s) :
  Calls Tryz.prog 67 #[.pointer (some ⟨a, 0, none⟩)] w fun e w' => e = .returned (.int .i64 ((s.nd - 3 : Nat) : Int)) ∧ w' = w := by
 have c0 := h.c0
 have HD := Lib.hid (drives_any w r s h.rack)
 have h5 := h.five
 obtain ⟨h16, _⟩ := h.bounds
 have e1 : (s.nd : Int) - 3 = ((s.nd - 3 : Nat) : Int) := by omega
 clear h
 go_enter Tryz.func67, Tryz.ntmps67
 go_wp2_with fail
 refine HD.out.mono ?_
 rintro e w' ⟨rfl, rfl⟩
 go_wp2_with fail
 go_ret
 exact ⟨rfl, rfl⟩
theorem drive_any (w : World) (h : At B w a r f s) (c : Nat) (hc : c ≤ 100000) :
  Calls Tryz.prog 110 #[.pointer (some ⟨a, 0, none⟩), .int .i64 (c : Int)] w fun e w' => e = .returned (.int .i64 ((c % s.nd : Nat) : Int)) ∧ w' = w := by
 have c0 := h.c0
 have HD := Lib.hid (drives_any w r s h.rack)
 have h5 := h.five
 obtain ⟨h16, _⟩ := h.bounds
 have e4 : ((s.nd : Int) = 0) = False := by simp; omega
 have hm : c % s.nd < s.nd := Nat.mod_lt _ (by omega)
 have e1 : IntKind.i64.wrap ((c : Int).tmod (s.nd : Int)) = ((c % s.nd : Nat) : Int) := by
  rw [Int.tmod_eq_emod_of_nonneg (by omega), ← Int.natCast_emod, IntKind.wrap_i64]
  omega
 have HE := Lib.hid e1
 clear h e1
 go_enter Tryz.func110, Tryz.ntmps110
 go_wp2_with fail
 refine HD.out.mono ?_
 rintro e w' ⟨rfl, rfl⟩
 go_wp2_with fail
 go_ret
 exact ⟨rfl, rfl⟩
end
end Arr
end Go.Proofs.YtgbehfkimchglaaGreatDoor
namespace Go.Proofs.YtgbehfkimchglaaGreatDoor
open Go Go.RowKit refRack
set_option maxRecDepth 100000
set_option linter.unusedVariables false
namespace Arr
section
variable {B a r f : Nat} {w w' : World} {s s' : RS}
set_option maxHeartbeats 800000 in
theorem cells_any (w : World) (h : At B w a r f s) :
  Calls Tryz.prog 20 #[.pointer (some ⟨a, 0, none⟩)] w fun e w' => e = .returned (.int .i64 ((cells s f : Nat) : Int)) ∧ ∃ d, w' = w.drewN d := by
 have c0 := h.c0
 have c1 := h.c1
 have HN := Lib.hid (none_any w h)
 have HD := Lib.hid (fun n => drives_any (w.drewN n) r s (h.rack.drewN n))
 have HS := Lib.hid (fun n => sectors_any (w.drewN n) r s (h.rack.drewN n))
 have hf := h.first
 obtain ⟨h16, h2k⟩ := h.bounds
 have hle := cells_le h
 have e2 : wrap64 ((s.nd : Int) * ((s.ns - f : Nat) : Int)) = ((cells s f : Nat) : Int) := by
  unfold cells at hle ⊢
  rw [← Int.natCast_mul]
  generalize s.nd * (s.ns - f) = y at *
  unfold wrap64
  omega
 have HE := Lib.hid e2
 have e3 : (s.ns : Int) - (f : Int) = ((s.ns - f : Nat) : Int) := by omega
 generalize hm : s.ns - f = m at *
 have hm' := Lib.hid hm
 clear h e2 hm
 go_enter Tryz.func20, Tryz.ntmps20
 go_wp2_with fail
 refine HN.out.mono ?_
 rintro e w' ⟨rfl, rfl⟩
 go_wp2_with fail
 go_quiet (first | (go_at_call 56; exact Calls.quiet_of_same (HD.out _)) | (go_at_call 57; exact Calls.quiet_of_same (HS.out _)))
 go_wp2_with fail
 go_ret
 refine ⟨?_, _, rfl⟩
 rw [← HE.out]
 rfl
theorem cost_ok (w : World) (h : At B w a r f s) (n : Nat) (h1 : 1 ≤ n) (hn : n ≤ 1024) :
  Calls Tryz.prog 22 #[.pointer (some ⟨a, 0, none⟩), .int .i64 (n : Int)] w fun e w' => e = .returned (.tuple #[.int .i64 ((cost s.nd n : Nat) : Int), .int .i64 0]) ∧ w' = w := by
 have HN := Lib.hid (none_any w h)
 have HW := Lib.hid (width_any w h)
 have h5 := h.five
 obtain ⟨h16, _⟩ := h.bounds
 have hs := secs_le hn
 have hr := rws_le h5 (secs_pos h1)
 have HP1 := Lib.hid (parts_any w n 128 (by omega) (by omega) (by omega))
 have HP2 := Lib.hid (parts_any w (secs n) (s.nd - 3) (by omega) (by omega) (by omega))
 have e0 : (n + 128 - 1) / 128 = secs n := by unfold secs; omega
 rw [e0] at HP1
 have e1 : (secs n + (s.nd - 3) - 1) / (s.nd - 3) = rws s.nd (secs n) := rfl
 rw [e1] at HP2
 have e2 : cost s.nd n = secs n + 3 * rws s.nd (secs n) := rfl
 rw [e2]
 have t1 : ((n : Int) < 1) = False := by simp; omega
 have t2 : ((1024 : Int) < (n : Int)) = False := by simp; omega
 generalize rws s.nd (secs n) = R at *
 generalize secs n = d at *
 clear h e1 e2 e0
 go_enter Tryz.func22, Tryz.ntmps22
 go_wp2_with fail
 refine HN.out.mono ?_
 rintro e w' ⟨rfl, rfl⟩
 go_wp2_with fail
 refine HP1.out.mono ?_
 rintro e w' ⟨rfl, rfl⟩
 go_wp2_with fail
 refine HW.out.mono ?_
 rintro e w' ⟨rfl, rfl⟩
 go_wp2_with fail
 refine HP2.out.mono ?_
 rintro e w' ⟨rfl, rfl⟩
 go_wp2_with fail
 go_ret2
 refine ⟨?_, rfl⟩
 first | rfl | (congr 3 <;> omega)
theorem span_ok (w : World) (h : At B w a r f s) (ad n : Nat) (h1 : 1 ≤ n) (hn : n ≤ 1024) (hc : ad + cost s.nd n ≤ cells s f) :
  Calls Tryz.prog 165 #[.pointer (some ⟨a, 0, none⟩), .int .i64 (ad : Int), .int .i64 (n : Int)] w fun e w' => e = .returned (.tuple #[.int .i64 ((cost s.nd n : Nat) : Int), .int .i64 0]) ∧ ∃ d, w' = w.drewN d := by
 have HC := Lib.hid (cost_ok w h n h1 hn)
 have HL := Lib.hid (cells_any w h)
 have hle := cells_le h
 have t1 : ((ad : Int) < 0) = False := by simp
 have t2 : ((cells s f : Int) - (cost s.nd n : Int) < (ad : Int)) = False := by simp; omega
 have e1 : IntKind.i64.wrap ((cells s f : Int) - (cost s.nd n : Int)) = (cells s f : Int) - (cost s.nd n : Int) := by rw [IntKind.wrap_i64]; omega
 generalize cells s f = C at *
 generalize cost s.nd n = c at *
 clear h
 go_enter Tryz.func165, Tryz.ntmps165
 go_wp2_with fail
 refine HC.out.mono ?_
 rintro e w' ⟨rfl, rfl⟩
 go_wp2_with fail
 refine HL.out.mono ?_
 rintro e w' ⟨rfl, d, rfl⟩
 go_wp2_with fail
 go_ret2
 exact ⟨rfl, d, rfl⟩
set_option maxHeartbeats 800000 in
theorem sector_any (w : World) (h : At B w a r f s) (c : Nat) (hc : c ≤ 100000) :
  Calls Tryz.prog 169 #[.pointer (some ⟨a, 0, none⟩), .int .i64 (c : Int)] w fun e w' => e = .returned (.int .i64 ((f + c / s.nd : Nat) : Int)) ∧ ∃ d, w' = w.drewN d := by
 have c0 := h.c0
 have c1 := h.c1
 have HD := Lib.hid (fun n => drives_any (w.drewN n) r s (h.rack.drewN n))
 have h5 := h.five
 have hf := h.first
 obtain ⟨h16, h2k⟩ := h.bounds
 have e4 : ((s.nd : Int) = 0) = False := by simp; omega
 have hd : c / s.nd ≤ c := Nat.div_le_self _ _
 have e1 : wrap64 ((c : Int) / (s.nd : Int)) = ((c / s.nd : Nat) : Int) := by
  rw [← Int.natCast_ediv]
  generalize c / s.nd = q at *
  unfold wrap64
  omega
 generalize hq : c / s.nd = q at *
 have HQ := Lib.hid hq
 clear h hq
 go_enter Tryz.func169, Tryz.ntmps169
 go_wp2_with fail
 go_quiet ((go_at_call 56; exact Calls.quiet_of_same (HD.out _)))
 go_wp2_with fail
 go_ret
 refine ⟨?_, _, rfl⟩
 rfl
end
end Arr
end Go.Proofs.YtgbehfkimchglaaGreatDoor
namespace Go.Proofs
open Go.Shelf
def YtgbehfkimchglaaGreatDoor.laySort_ren : Go.Shelf.Ren := ⟨fun | 189 => 132 | 125 => 186 | 257 => 185 | 128 => 224 | 129 => 225 | 294 => 215 | 295 => 216 | 296 => 217 | 297 => 218 | 298 => 219 | 299 => 220 | 216 => 221 | 300 => 222 | 301 => 223 | 328 => 247 | 329 => 248 | 330 => 249 | 331 => 250 | 332 => 251 | 215 => 252 | 343 => 263 | n => n, fun | 28 => 64 | 3 => 3 | 46 => 236 | 0 => 0 | 51 => 87 | 53 => 77 | 4 => 4 | 183 => 299 | 182 => 298 | 131 => 174 | 5 => 5 | 9 => 9 | 218 => 321 | 222 => 325 | 228 => 336 | 229 => 337 | n => n, fun | n => n⟩
theorem YtgbehfkimchglaaGreatDoor.laySort : Go.Proofs.Lays.n189 Tryz.prog YtgbehfkimchglaaGreatDoor.laySort_ren := {
 mixed := by kernel_rfl
 f125 := Tryz.func186.trans (congrArg some (by kernel_rfl))
 f128 := Tryz.func224.trans (congrArg some (by kernel_rfl))
 f129 := Tryz.func225.trans (congrArg some (by kernel_rfl))
 f189 := Tryz.func132.trans (congrArg some (by kernel_rfl))
 f215 := Tryz.func252.trans (congrArg some (by kernel_rfl))
 f216 := Tryz.func221.trans (congrArg some (by kernel_rfl))
 f257 := Tryz.func185.trans (congrArg some (by kernel_rfl))
 f294 := Tryz.func215.trans (congrArg some (by kernel_rfl))
 f295 := Tryz.func216.trans (congrArg some (by kernel_rfl))
 f296 := Tryz.func217.trans (congrArg some (by kernel_rfl))
 f297 := Tryz.func218.trans (congrArg some (by kernel_rfl))
 f298 := Tryz.func219.trans (congrArg some (by kernel_rfl))
 f299 := Tryz.func220.trans (congrArg some (by kernel_rfl))
 f300 := Tryz.func222.trans (congrArg some (by kernel_rfl))
 f301 := Tryz.func223.trans (congrArg some (by kernel_rfl))
 f328 := Tryz.func247.trans (congrArg some (by kernel_rfl))
 f329 := Tryz.func248.trans (congrArg some (by kernel_rfl))
 f330 := Tryz.func249.trans (congrArg some (by kernel_rfl))
 f331 := Tryz.func250.trans (congrArg some (by kernel_rfl))
 f332 := Tryz.func251.trans (congrArg some (by kernel_rfl))
 f343 := Tryz.func263.trans (congrArg some (by kernel_rfl))
 t0 := Tryz.underlying0
 a0 := Tryz.isAgg0
 z0 := Tryz.sizeOf0
 v0 := Tryz.zeroValue0
 t3 := Tryz.underlying3
 a3 := Tryz.isAgg3
 z3 := Tryz.sizeOf3
 v3 := Tryz.zeroValue3
 t4 := Tryz.underlying4
 a4 := Tryz.isAgg4
 z4 := Tryz.sizeOf4
 v4 := Tryz.zeroValue4
 t5 := Tryz.underlying5
 a5 := Tryz.isAgg5
 z5 := Tryz.sizeOf5
 v5 := Tryz.zeroValue5
 t9 := Tryz.underlying9
 a9 := Tryz.isAgg9
 z9 := Tryz.sizeOf9
 v9 := Tryz.zeroValue9
 t28 := Tryz.underlying64
 a28 := Tryz.isAgg64
 z28 := Tryz.sizeOf64
 v28 := Tryz.zeroValue64
 t46 := Tryz.underlying236
 a46 := Tryz.isAgg236
 z46 := Tryz.sizeOf236
 v46 := Tryz.zeroValue236
 t51 := Tryz.underlying87
 a51 := Tryz.isAgg87
 z51 := Tryz.sizeOf87
 v51 := Tryz.zeroValue87
 t53 := Tryz.underlying77
 a53 := Tryz.isAgg77
 z53 := Tryz.sizeOf77
 v53 := Tryz.zeroValue77
 t131 := Tryz.underlying174
 a131 := Tryz.isAgg174
 z131 := Tryz.sizeOf174
 v131 := Tryz.zeroValue174
 t182 := Tryz.underlying298
 a182 := Tryz.isAgg298
 z182 := Tryz.sizeOf298
 v182 := Tryz.zeroValue298
 t183 := Tryz.underlying299
 a183 := Tryz.isAgg299
 z183 := Tryz.sizeOf299
 v183 := Tryz.zeroValue299
 t218 := Tryz.underlying321
 a218 := Tryz.isAgg321
 z218 := Tryz.sizeOf321
 v218 := Tryz.zeroValue321
 t222 := Tryz.underlying325
 a222 := Tryz.isAgg325
 z222 := Tryz.sizeOf325
 v222 := Tryz.zeroValue325
 t228 := Tryz.underlying336
 a228 := Tryz.isAgg336
 z228 := Tryz.sizeOf336
 v228 := Tryz.zeroValue336
 t229 := Tryz.underlying337
 a229 := Tryz.isAgg337
 z229 := Tryz.sizeOf337
 v229 := Tryz.zeroValue337 }
end Go.Proofs
