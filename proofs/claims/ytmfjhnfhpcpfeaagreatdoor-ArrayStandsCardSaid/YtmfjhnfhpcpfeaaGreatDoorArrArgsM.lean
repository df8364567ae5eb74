/-
  Texts as their bytes; the law's block on a rack: 'lay'. Conditions: SHA's table.
-/
import Derived.Test.YtmfjhnfhpcpfeaaGreatDoorShaLaidM
import Derived.ProofKit
import Derived.ChangeArms
import Derived.WideShapes
import Derived.ChangeSlices
import Derived.Lib.SmallJoins
namespace Go.Proofs.YtmfjhnfhpcpfeaaGreatDoor
open Go Go.RowKit refRack
set_option maxRecDepth 100000
set_option linter.unusedVariables false
namespace Arr
theorem strB_extract (n : Nat) (X : Nat → Nat) (i j : Nat) (hij : i ≤ j) (h : j ≤ n) : (strB n X).extract i j = strB (j - i) (fun t => X (i + t)) := by
  apply ByteArray.ext
  apply Array.toList_inj.1
  rw [ByteArray.data_extract, Array.toList_extract, strB_data, strB_data, List.extract_eq_take_drop]
  apply List.ext_getElem?
  intro t
  by_cases ht : t < j - i
  · rw [List.getElem?_take_of_lt ht, List.getElem?_drop, List.getElem?_map, List.getElem?_map, List.getElem?_range (by omega), List.getElem?_range ht]
    rfl
  · rw [List.getElem?_eq_none (by rw [List.length_take]; omega), List.getElem?_eq_none (by simp; omega)]
/-- a text as its bytes -/
def bOf (s : ByteArray) (j : Nat) : Nat := (s.data.toList.getD j 0).toNat
theorem bOf_lt (s : ByteArray) (j : Nat) : bOf s j < 256 := UInt8.toNat_lt _
theorem str_isS (s : ByteArray) : s = strB s.size (bOf s) := by
  apply ByteArray.ext
  apply Array.toList_inj.1
  rw [strB_data]
  apply List.ext_getElem?
  intro t
  have hs : s.data.toList.length = s.size := rfl
  by_cases ht : t < s.size
  · rw [List.getElem?_map, List.getElem?_range ht, List.getElem?_eq_getElem (by omega)]
    unfold bOf
    simp [List.getD_eq_getElem?_getD, ht]
  · rw [List.getElem?_eq_none (by omega), List.getElem?_eq_none (by simp; omega)]
theorem slice_strTo (n : Nat) (X : Nat → Nat) (k : Nat) (L : Int) (hL : L = (k : Int)) (h : k ≤ n) (W : World) : (Instr.sliceAt 9 (.string (strB n X)) none (some (.int .i64 L)) none).run Tryz.prog W = .ok (.string (strB k X)) W := by
  subst hL
  have hs := strB_size n X
  have e := strB_extract n X 0 k (Nat.zero_le _) h
  simp only [Nat.sub_zero, Nat.zero_add] at e
  rw [← e, run_sliceAt_string (P := Tryz.prog) (w := W) (h := Tryz.underlying9)]
  simp [go_sem]
  intro h2
  omega
theorem umod (a : Int) (k : Nat) (hk : 0 < k) (hk2 : k ≤ 1000000) : ∃ n : Nat, wrap64 ((IntKind.u64.wrap a).tmod (k : Int)) = (n : Int) ∧ n < k := by
  have h0 : 0 ≤ IntKind.u64.wrap a := by rw [IntKind.wrap_u64]; omega
  have h1 := Int.tmod_nonneg (k : Int) h0
  have h2 := Int.tmod_lt_of_pos (IntKind.u64.wrap a) (show (0 : Int) < k by omega)
  refine ⟨((IntKind.u64.wrap a).tmod (k : Int)).toNat, ?_, by omega⟩
  generalize (IntKind.u64.wrap a).tmod (k : Int) = y at *
  unfold wrap64
  omega
def layS (N n ad : Nat) (X : Nat → Nat) : RS := (wrAll (RS.new N 9) 2 ad (cellX N n X) (cost N n)).flushed
theorem results_tmp5 {fn : Func} {t u v x y : Tmp} (h : fn.results = #[.tmp t, .tmp u, .tmp v, .tmp x, .tmp y]) (tmps : Array Value) (P : Program) (w : World) :
    (results fn tmps).run P w = .ok (.tuple #[tmps.getD t undef, tmps.getD u undef, tmps.getD v undef, tmps.getD x undef, tmps.getD y undef]) w := by
  simp [results, h]
theorem exX_lt (j : Nat) : 120 < 256 := by decide
def exX (_ : Nat) : Nat := 120
theorem ex_str : (⟨#[120]⟩ : ByteArray) = strB 1 exX := by decide
theorem strB_none (X : Nat → Nat) : (strB 0 X).toList.isEmpty = true := by
  have e : (strB 0 X).toList = (List.range 0).map fun j => UInt8.ofNat (X j) := by rw [ByteArray.toList_eq]; exact strB_data 0 X
  rw [e]
  rfl
theorem strB_some {n : Nat} {X : Nat → Nat} (h : 0 < n) : (strB n X).toList.isEmpty = false := by
  have e : (strB n X).toList = (List.range n).map fun j => UInt8.ofNat (X j) := by rw [ByteArray.toList_eq]; exact strB_data n X
  rw [e]
  cases n with
  | zero => omega
  | succ n => simp [List.range_succ]
theorem cost_room {N n : Nat} (hN : 5 ≤ N) (hN2 : N ≤ 16) (h1 : 1 ≤ n) (hn : n ≤ 1024) : cost N n ≤ 32 ∧ 1 ≤ cost N n ∧ cost N n ≤ N * 7 := by
  have hs := secs_le hn
  have hp := secs_pos h1
  have hr := rws_le hN hp
  have h3 := (rws_spec hN hp).2.2
  unfold cost
  generalize rws N (secs n) = R at *
  generalize secs n = d at *
  refine ⟨by omega, by omega, ?_⟩
  have : R ≤ 4 := by
    rcases Nat.lt_or_ge 4 R with h | h
    · have : 4 * 2 ≤ (R - 1) * (N - 3) := Nat.mul_le_mul (by omega) (by omega)
      omega
    · exact h
  omega
theorem rack_low {B B' r : Nat} {s : RS} {w : World} (h : RackAt B w r s) (hB : B' ≤ B) : RackAt B' w r s := by
  obtain ⟨h0, m1, m2, v, h⟩ := h
  exact ⟨h0, m1, m2, v, h.blk, Nat.le_trans hB h.hr, Nat.le_trans hB h.h1, Nat.le_trans hB h.h2, h.ne, h.last, h.newest, own_base h.row hB⟩
set_option maxHeartbeats 3200000 in
theorem lay_law (w : World) (hpos : 0 < w.heap.size) (dr adr : Int) (D : ByteArray) (fA hA : Option Addr) (fn fc hn hc : Nat) :
    Calls Tryz.prog 15 #[.agg #[.int .i64 dr, .string D, .int .i64 adr, .slice fA fn fc, .slice hA hn hc]] w fun e w' => ∃ r a N n ad X, 5 ≤ N ∧ N ≤ 16 ∧ 1 ≤ n ∧ n ≤ 1024 ∧ (∀ j, X j < 256) ∧ ad + cost N n ≤ N * 7 ∧ e = .returned (.tuple #[.pointer (some ⟨r, 0, none⟩), .pointer (some ⟨a, 0, none⟩), .int .i64 ((ad : Nat) : Int), .string (strB n X), .bool true]) ∧ Arr.At w.heap.size w' a r 2 (layS N n ad X) ∧ Keep w.heap.size w w' := by
  obtain ⟨n0, hat, hn0⟩ := umod dr 12 (by omega) (by omega)
  have hat : wrap64 ((IntKind.u64.wrap dr).tmod 12) = (n0 : Int) := hat
  obtain ⟨N, hN⟩ : ∃ N, N = n0 + 5 := ⟨_, rfl⟩
  have HN : Hid ((5 : Int) + (n0 : Int) = (N : Int)) := Lib.hid (by omega)
  have hN5 : 5 ≤ N := by omega
  have hN16 : N ≤ 16 := by omega
  obtain ⟨wb, hwb⟩ : ∃ wb, wb = w.alloc (.cells #[.int .i64 dr, .string D, .int .i64 adr, .slice fA fn fc, .slice hA hn hc] 39) := ⟨_, rfl⟩
  have hbb : Below w.heap.size w wb := by rw [hwb]; exact (Below.refl _ _).alloc (Nat.le_refl _) _
  have XB : Hid (Blk wb w.heap.size 39 #[.int .i64 dr, .string D, .int .i64 adr, .slice fA fn fc, .slice hA hn hc]) := Lib.hid (by rw [hwb]; exact Blk.new _ _ _)
  have HBB := Lib.hid hbb
  obtain ⟨z, hz⟩ : ∃ z, z = w.heap.size := ⟨_, rfl⟩
  have HZ := Lib.hid hz
  have HWB := Lib.hid hwb
  clear hN hbb hwb hz
  go_enter Tryz.func15, Tryz.ntmps15
  go_wp2_with fail
  rw [HN.out, ← HWB.out, ← HZ.out]
  clear hat
  refine (new_any wb N 9 (by omega) (by omega) (by omega) (by omega)).mono ?_
  rintro e w4 ⟨⟨r, rfl, h4⟩, k4⟩
  have hB : RackAt w.heap.size w4 r (RS.new N 9) := rack_low h4 HBB.out.size
  have HA : Hid (Calls Tryz.prog 11 #[.pointer (some ⟨r, 0, none⟩), .int .i64 2] w4 fun e w' => e = .returned (.tuple #[.pointer (some ⟨w4.heap.size, 0, none⟩), .int .i64 0]) ∧ w' = w4.alloc (.cells (arrA r 2) 69) ∧ At w.heap.size w' w4.heap.size r 2 (RS.new N 9) ∧ Keep w.heap.size w4 w') := Lib.hid (new_ok w4 hB hN5 (by show 2 < 9; decide))
  have K4 : Hid (Keep w.heap.size w w4) := Lib.hid (((Keep.refl w.heap.size w).new HBB.out (Nat.le_refl _)).trans ⟨k4.below.mono HBB.out.size, k4.kept⟩)
  have X4 : Hid (Blk w4 z 39 #[.int .i64 dr, .string D, .int .i64 adr, .slice fA fn fc, .slice hA hn hc]) := Lib.hid (by rw [HZ.out]; exact k4.block XB.out rfl)
  clear h4 k4 hB
  go_wp2_with fail
  refine HA.out.mono ?_
  rintro e w5 ⟨rfl, hw5, hA5, k5⟩
  clear hw5
  generalize w4.heap.size = a at *
  have A5 := Lib.hid hA5
  have K5 := Lib.hid (K4.out.trans k5)
  have X5 : Hid (Blk w5 z 39 #[.int .i64 dr, .string D, .int .i64 adr, .slice fA fn fc, .slice hA hn hc]) := Lib.hid (k5.block X4.out rfl)
  have c1 : w5.cell? ⟨z, 1, none⟩ = some (.string D) := X5.out.cell 1
  obtain ⟨m, hm⟩ : ∃ m, m = min D.size 1024 := ⟨_, rfl⟩
  have hm1 : m ≤ 1024 := by omega
  have t1 : min (D.size : Int) 1024 = (m : Int) := by omega
  have hsl : ∀ W : World, (Instr.sliceAt 9 (.string D) none (some (.int .i64 (m : Int))) none).run Tryz.prog W = .ok (.string (strB m (bOf D))) W := fun W => by
    have h := slice_strTo D.size (bOf D) m m rfl (by omega) W
    rw [← str_isS D] at h
    exact h
  have hsz : (strB m (bOf D)).size = m := strB_size _ _
  clear hA5 k5 HA K4 X4 hm
  by_cases hm0 : m = 0
  · subst hm0
    have he : (strB 0 (bOf D)).toList.isEmpty = true := strB_none _
    go_wp2_with fail
    rw [ex_str]
    have HC : Hid (Calls Tryz.prog 12 #[.pointer (some ⟨a, 0, none⟩), .int .i64 1] w5 fun e w' => e = .returned (.tuple #[.int .i64 ((cost N 1 : Nat) : Int), .int .i64 0]) ∧ w' = w5) := Lib.hid (cost_ok w5 A5.out 1 (by omega) (by omega))
    have hcl : cells (RS.new N 9) 2 = N * 7 := rfl
    have HCL := Lib.hid (cells_any w5 A5.out)
    rw [hcl] at HCL
    have hcc2 : cost N 1 ≤ 32 ∧ 1 ≤ cost N 1 ∧ cost N 1 ≤ N * 7 := cost_room hN5 hN16 (by omega) (by omega)
    obtain ⟨C, hC⟩ : ∃ C, C = N * 7 := ⟨_, rfl⟩
    rw [← hC] at HCL hcc2
    have HCE : Hid (cells (RS.new N 9) 2 = C) := Lib.hid (hcl.trans hC.symm)
    have hC2 : C ≤ 112 := by omega
    obtain ⟨k, hk⟩ : ∃ k, k = C - cost N 1 + 1 := ⟨_, rfl⟩
    obtain ⟨ad, had, hadk⟩ := umod adr k (by omega) (by omega)
    have HAD : Hid (ad + cost N 1 ≤ N * 7) := Lib.hid (by omega)
    have e1 : (C : Int) - ((cost N 1 : Nat) : Int) + 1 = (k : Int) := by omega
    have t2 : ¬ ((C : Int) < ((cost N 1 : Nat) : Int)) := by omega
    have hk1 : 1 ≤ k := by omega
    have hk2 : k ≤ 113 := by omega
    have c2 : w5.cell? ⟨z, 2, none⟩ = some (.int .i64 adr) := X5.out.cell 2
    have HCC := Lib.hid hcc2
    clear hcl hC hk hcc2
    generalize hcg : cost N 1 = c at *
    have HCG := Lib.hid hcg
    clear hcg
    refine HC.out.mono ?_
    rintro e w6 ⟨rfl, hw6⟩
    have hw6 := hw6.symm
    subst hw6
    go_wp2_with fail
    refine HCL.out.mono ?_
    rintro e w6 ⟨rfl, d, rfl⟩
    have A6 : Hid (At w.heap.size (w5.drewN d) a r 2 (RS.new N 9)) := Lib.hid (A5.out.drewN d)
    have K6 : Hid (Keep w.heap.size w (w5.drewN d)) := Lib.hid (K5.out.drewN d)
    have c2 : (w5.drewN d).cell? ⟨z, 2, none⟩ = some (.int .i64 adr) := c2
    clear HCL HC
    generalize w5.drewN d = w6 at *
    have HCL2 := Lib.hid (fun n => cells_any (w6.drewN n) (A6.out.drewN n))
    rw [show cells (RS.new N 9) 2 = C from HCE.out] at HCL2
    go_wp2_with fail
    go_quiet ((go_at_call 14; exact Calls.quiet_of (HCL2.out _)))
    have HXX : Hid (∀ j, exX j < 256) := Lib.hid exX_lt
    go_wp2_with ((with_reducible refine wpList_conv_str rfl (.tmp 81) rfl rfl (fun j _ => HXX.out j) (by unfold maxLen; omega) ?_); intro c7 w7 ho7 hb7; refine of_hid ?_)
    refine Lib.hid ?_
    obtain ⟨A7, q7, e7, h7a, h7b, h7c, _⟩ := ho7.shape (fun j _ => HXX.out j)
    injection e7 with e7 _ e8
    subst e7 e8
    have b7 : Below w6.heap.size w6 w7 := (below_drewN (Below.refl _ _) _).trans hb7
    have hA7 : At w.heap.size w7 a r 2 (RS.new N 9) := A6.out.grown_ b7
    have K7 : Hid (Keep w.heap.size w w7) := Lib.hid (K6.out.new b7 A6.out.rack.le)
    have HW : Hid (Calls Tryz.prog 16 #[.pointer (some ⟨a, 0, none⟩), .int .i64 (ad : Int), .slice (some ⟨w6.heap.size, 0, none⟩) 1 c7] w7 fun e w' => e = .returned (.int .i64 0) ∧ RackAt w.heap.size w' r (wrAll (RS.new N 9) 2 ad (cellX N 1 exX) (cost N 1)) ∧ Keep w.heap.size w7 w') := Lib.hid
      (write_ok w7 hA7 ⟨rfl, rfl⟩ _ 1 c7 ad w7.heap.size exX h7a (fun j _ => HXX.out j) (Nat.le_refl _) h7b h7c (by omega) (by omega) (by have h := HAD.out; have g := HCG.out; show ad + cost N 1 ≤ N * 7; omega) (by rw [goneB_none fun _ => rfl]; exact Nat.zero_le _) (by have g := HCG.out; have h := HAD.out; show 0 + cost N 1 ≤ 1000000; omega))
    have HA7 := Lib.hid hA7
    clear ho7 hb7 h7a h7b h7c b7 hA7
    go_wp2_with fail
    refine HW.out.mono ?_
    rintro e w8 ⟨rfl, h8, k8⟩
    have hl8 := wrAll_like (RS.new N 9) 2 ad (cellX N 1 exX) (cost N 1)
    have HFL := Lib.hid (flush_calm w8 r _ h8 (hl8.1.calm ⟨rfl, rfl⟩))
    have HA8 : Hid (At w.heap.size w8 a r 2 (wrAll (RS.new N 9) 2 ad (cellX N 1 exX) (cost N 1))) := Lib.hid (HA7.out.rack_ h8 k8 hl8.1.nd hl8.1.ns)
    have K8 := Lib.hid (K7.out.trans k8)
    clear h8 k8 hl8 HW
    go_wp2_with fail
    refine HFL.out.mono ?_
    rintro e w9 ⟨rfl, h9, k9⟩
    have HA9 : Hid (At w.heap.size w9 a r 2 (layS N 1 ad exX)) := Lib.hid (HA8.out.rack_ h9 k9 rfl rfl)
    have K9 := Lib.hid (K8.out.trans k9)
    have HAD9 : Hid (ad + cost N 1 ≤ N * 7) := Lib.hid (by have h := HAD.out; have g := HCG.out; omega)
    clear h9 k9 HFL
    go_wp2_with fail
    (try simp only [Exit.inBlock, Exit.then])
    refine bodyPost_ret (results_tmp5 rfl _ _ _) rfl ?_
    exact ⟨r, a, N, 1, ad, exX, hN5, hN16, (by omega), (by omega), HXX.out, HAD9.out, rfl, HA9.out, K9.out⟩
  · have he : (strB m (bOf D)).toList.isEmpty = false := strB_some (by omega)
    go_wp2_with fail
    have HC : Hid (Calls Tryz.prog 12 #[.pointer (some ⟨a, 0, none⟩), .int .i64 (m : Int)] w5 fun e w' => e = .returned (.tuple #[.int .i64 ((cost N m : Nat) : Int), .int .i64 0]) ∧ w' = w5) := Lib.hid (cost_ok w5 A5.out m (by omega) hm1)
    have hcl : cells (RS.new N 9) 2 = N * 7 := rfl
    have HCL := Lib.hid (cells_any w5 A5.out)
    rw [hcl] at HCL
    have hcc2 : cost N m ≤ 32 ∧ 1 ≤ cost N m ∧ cost N m ≤ N * 7 := cost_room hN5 hN16 (by omega) hm1
    obtain ⟨C, hC⟩ : ∃ C, C = N * 7 := ⟨_, rfl⟩
    rw [← hC] at HCL hcc2
    have HCE : Hid (cells (RS.new N 9) 2 = C) := Lib.hid (hcl.trans hC.symm)
    have hC2 : C ≤ 112 := by omega
    obtain ⟨k, hk⟩ : ∃ k, k = C - cost N m + 1 := ⟨_, rfl⟩
    obtain ⟨ad, had, hadk⟩ := umod adr k (by omega) (by omega)
    have HAD : Hid (ad + cost N m ≤ N * 7) := Lib.hid (by omega)
    have e1 : (C : Int) - ((cost N m : Nat) : Int) + 1 = (k : Int) := by omega
    have t2 : ¬ ((C : Int) < ((cost N m : Nat) : Int)) := by omega
    have hk1 : 1 ≤ k := by omega
    have hk2 : k ≤ 113 := by omega
    have c2 : w5.cell? ⟨z, 2, none⟩ = some (.int .i64 adr) := X5.out.cell 2
    have HCC := Lib.hid hcc2
    clear hcl hC hk hcc2
    generalize hcg : cost N m = c at *
    have HCG := Lib.hid hcg
    clear hcg
    refine HC.out.mono ?_
    rintro e w6 ⟨rfl, hw6⟩
    have hw6 := hw6.symm
    subst hw6
    go_wp2_with fail
    refine HCL.out.mono ?_
    rintro e w6 ⟨rfl, d, rfl⟩
    have A6 : Hid (At w.heap.size (w5.drewN d) a r 2 (RS.new N 9)) := Lib.hid (A5.out.drewN d)
    have K6 : Hid (Keep w.heap.size w (w5.drewN d)) := Lib.hid (K5.out.drewN d)
    have c2 : (w5.drewN d).cell? ⟨z, 2, none⟩ = some (.int .i64 adr) := c2
    clear HCL HC
    generalize w5.drewN d = w6 at *
    have HCL2 := Lib.hid (fun n => cells_any (w6.drewN n) (A6.out.drewN n))
    rw [show cells (RS.new N 9) 2 = C from HCE.out] at HCL2
    go_wp2_with fail
    go_quiet ((go_at_call 14; exact Calls.quiet_of (HCL2.out _)))
    have HXX : Hid (∀ j, bOf D j < 256) := Lib.hid (bOf_lt D)
    go_wp2_with ((with_reducible refine wpList_conv_str rfl (.tmp 81) rfl rfl (fun j _ => HXX.out j) (by unfold maxLen; omega) ?_); intro c7 w7 ho7 hb7; refine of_hid ?_)
    refine Lib.hid ?_
    obtain ⟨A7, q7, e7, h7a, h7b, h7c, _⟩ := ho7.shape (fun j _ => HXX.out j)
    injection e7 with e7 _ e8
    subst e7 e8
    have b7 : Below w6.heap.size w6 w7 := (below_drewN (Below.refl _ _) _).trans hb7
    have hA7 : At w.heap.size w7 a r 2 (RS.new N 9) := A6.out.grown_ b7
    have K7 : Hid (Keep w.heap.size w w7) := Lib.hid (K6.out.new b7 A6.out.rack.le)
    have HW : Hid (Calls Tryz.prog 16 #[.pointer (some ⟨a, 0, none⟩), .int .i64 (ad : Int), .slice (some ⟨w6.heap.size, 0, none⟩) m c7] w7 fun e w' => e = .returned (.int .i64 0) ∧ RackAt w.heap.size w' r (wrAll (RS.new N 9) 2 ad (cellX N m (bOf D)) (cost N m)) ∧ Keep w.heap.size w7 w') := Lib.hid
      (write_ok w7 hA7 ⟨rfl, rfl⟩ _ m c7 ad w7.heap.size (bOf D) h7a (fun j _ => HXX.out j) (Nat.le_refl _) h7b h7c (by omega) hm1 (by have h := HAD.out; have g := HCG.out; show ad + cost N m ≤ N * 7; omega) (by rw [goneB_none fun _ => rfl]; exact Nat.zero_le _) (by have g := HCG.out; have h := HAD.out; show 0 + cost N m ≤ 1000000; omega))
    have HA7 := Lib.hid hA7
    clear ho7 hb7 h7a h7b h7c b7 hA7
    go_wp2_with fail
    refine HW.out.mono ?_
    rintro e w8 ⟨rfl, h8, k8⟩
    have hl8 := wrAll_like (RS.new N 9) 2 ad (cellX N m (bOf D)) (cost N m)
    have HFL := Lib.hid (flush_calm w8 r _ h8 (hl8.1.calm ⟨rfl, rfl⟩))
    have HA8 : Hid (At w.heap.size w8 a r 2 (wrAll (RS.new N 9) 2 ad (cellX N m (bOf D)) (cost N m))) := Lib.hid (HA7.out.rack_ h8 k8 hl8.1.nd hl8.1.ns)
    have K8 := Lib.hid (K7.out.trans k8)
    clear h8 k8 hl8 HW
    go_wp2_with fail
    refine HFL.out.mono ?_
    rintro e w9 ⟨rfl, h9, k9⟩
    have HA9 : Hid (At w.heap.size w9 a r 2 (layS N m ad (bOf D))) := Lib.hid (HA8.out.rack_ h9 k9 rfl rfl)
    have K9 := Lib.hid (K8.out.trans k9)
    have HAD9 : Hid (ad + cost N m ≤ N * 7) := Lib.hid (by have h := HAD.out; have g := HCG.out; omega)
    clear h9 k9 HFL
    go_wp2_with fail
    (try simp only [Exit.inBlock, Exit.then])
    refine bodyPost_ret (results_tmp5 rfl _ _ _) rfl ?_
    exact ⟨r, a, N, m, ad, (bOf D), hN5, hN16, (by omega), hm1, HXX.out, HAD9.out, rfl, HA9.out, K9.out⟩
end Arr
end Go.Proofs.YtmfjhnfhpcpfeaaGreatDoor
namespace Go.Proofs.YtmfjhnfhpcpfeaaGreatDoor
open Go Go.RowKit refRack
set_option maxRecDepth 100000
set_option linter.unusedVariables false
namespace Arr
theorem ownB_keepK {B base : Nat} {w w' : World} {v : Value} {l : List Nat} (h : Gr.OwnG 5 1 Cc.csB w base v l) (hk : Keep B w w') : Gr.OwnG 5 1 Cc.csB w' base v l := by
  refine ⟨h.1, ?_⟩
  rcases h.2 with e | ⟨g, cap, cur, e, h1, h2, h3⟩
  · exact .inl e
  · exact .inr ⟨g, cap, cur, e, h1, hk.kept g _ h2 rfl, h3⟩
/-- a rack on which one block stands -/
structure LB (s : RS) (N n ad : Nat) (X : Nat → Nat) : Prop where
  nd : s.nd = N
  ns : s.ns = 9
  calm : s.calm
  gone : ∀ d, s.gone d = false
  cost : s.cost ≤ 32
  sound : Sound s 2 ad n X
theorem layS_ok {N n ad : Nat} (hN : 5 ≤ N) (hN2 : N ≤ 16) (h1 : 1 ≤ n) (hn : n ≤ 1024) (X : Nat → Nat) : LB (layS N n ad X) N n ad X := by
  obtain ⟨hl, hc⟩ := wrAll_like (RS.new N 9) 2 ad (cellX N n X) (cost N n)
  have h3 := (cost_room hN hN2 h1 hn).1
  have hs : Sound (wrAll (RS.new N 9) 2 ad (cellX (RS.new N 9).nd n X) (cost (RS.new N 9).nd n)) 2 ad n X := Sound.wrAll
  exact ⟨hl.nd, hl.ns, hl.calm ⟨rfl, rfl⟩, fun d => by show (wrAll _ _ _ _ _).gone d = false; rw [hl.gone]; rfl, Nat.le_trans hc (by show 0 + _ ≤ 32; omega), hs.flushed⟩
theorem Sound.apart {s : RS} {f ad n at_ k : Nat} {X : Nat → Nat} {Y : Nat → Nat → Nat} (h : Sound s f ad n X) (hd : ad + cost s.nd n ≤ at_ ∨ at_ + k ≤ ad) : Sound (Arr.wrAll s f at_ Y k) f ad n X := fun i hi hg v hv => by
  have hl := (wrAll_like s f at_ Y k).1
  rw [hl.nd] at hi
  rw [hl.goneC] at hg
  rw [wrAll_holds, if_neg (by omega), hl.nd]
  exact h i hi hg v hv
/-- a second block beside it -/
theorem lb_second {s : RS} {N n ad m at_ : Nat} {X Y : Nat → Nat} (h : LB s N n ad X) (hN : 5 ≤ N) (hN2 : N ≤ 16) (h1 : 1 ≤ m) (hm : m ≤ 1024) (hd : ad + cost N n ≤ at_ ∨ at_ + cost N m ≤ ad) :
    (wrAll s 2 at_ (cellX s.nd m Y) (cost s.nd m)).calm ∧ (∀ d, (wrAll s 2 at_ (cellX s.nd m Y) (cost s.nd m)).flushed.gone d = false) ∧ Sound (wrAll s 2 at_ (cellX s.nd m Y) (cost s.nd m)).flushed 2 ad n X ∧ Sound (wrAll s 2 at_ (cellX s.nd m Y) (cost s.nd m)).flushed 2 at_ m Y := by
  obtain ⟨hl, hc⟩ := wrAll_like s 2 at_ (cellX s.nd m Y) (cost s.nd m)
  exact ⟨hl.calm h.calm, fun d => by show (wrAll _ _ _ _ _).gone d = false; rw [hl.gone]; exact h.gone d, (h.sound.apart (by rw [h.nd]; exact hd)).flushed, (Sound.wrAll).flushed⟩
end Arr
end Go.Proofs.YtmfjhnfhpcpfeaaGreatDoor
namespace Go.Proofs.YtmfjhnfhpcpfeaaGreatDoor
open Go Go.RowKit Go.ChangeShapes Go.WideShapes Go.Joins
set_option maxRecDepth 100000
set_option linter.unusedVariables false
namespace Arr
theorem wf_endsA {a : Int} (h : (Lit.int .i64 a).wf = true) : -9223372036854775808 ≤ a ∧ a ≤ 9223372036854775807 := by
  simp only [Lit.wf, Bool.and_eq_true, decide_eq_true_eq] at h
  exact h
/-- n numbers, below block B -/
def RdZ (w : World) (B : Nat) (A : Option Addr) (n : Nat) (x : Nat → Int) : Prop :=
  ∀ i, i < n → ∃ b o, A = some ⟨b, o, none⟩ ∧ b < B ∧ w.cell? ⟨b, o + i, none⟩ = some (.int .i64 (x i)) ∧ -9223372036854775808 ≤ x i ∧ x i ≤ 9223372036854775807
theorem RdZ.below {w w' : World} {B B' : Nat} {A : Option Addr} {n : Nat} {x : Nat → Int} (h : RdZ w B A n x) (hb : Below B' w w') (hB : B ≤ B') : RdZ w' B A n x := fun i hi => by
  obtain ⟨b, o, h1, h2, h3, h4⟩ := h i hi
  exact ⟨b, o, h1, h2, (hb.cell (p := ⟨b, o + i, none⟩) (show b < B' by omega)).trans h3, h4⟩
theorem getD_memA {zs : List Int} {j : Nat} (h : j < zs.length) : zs.getD j 0 ∈ zs := by
  rw [List.getD_eq_getElem?_getD, List.getElem?_eq_getElem h]
  exact List.getElem_mem h
section
variable {H : Type} {enc : TypeId × Value → H} {w : World} {base : Nat} {spare : Nat → Bool} {held : Bool}
theorem ints_of_trodA {fuel : Nat} {c0 : Value} {y : DataW H × List MemPlace} (h : DataW.trod enc Tryz.prog w base (fun _ => true) held fuel 33 [c0] = some y) : ∃ A n c x, c0 = .slice A n c ∧ RdZ w w.heap.size A n x ∧ n ≤ c ∧ c ≤ maxLen := by
  rcases open_ints Tryz.underlying33 Tryz.underlying3 (by kernel_rfl) h with ⟨hcs, _⟩ | ⟨a, l, c, zs, hcs, _, hl, hm, hz, _, hcell, hwz⟩
  · injection hcs with hcs _
    exact ⟨none, 0, 0, fun _ => 0, hcs, fun i hi => absurd hi (by omega), Nat.le_refl _, by simp [maxLen]⟩
  · injection hcs with hcs _
    simp at hz
    refine ⟨some a, l, c, fun j => zs.getD j 0, hcs, fun j hj => ?_, hl, hm⟩
    obtain ⟨b, o, sp⟩ := a
    have h0 := hcell j (by omega)
    have hsp : sp = none := by
      have h1 := hcell 0 (by omega)
      have h2 := World.cell?_spot h1
      simpa [Addr.add] using h2
    subst hsp
    rw [add_plain] at h0
    exact ⟨b, o, rfl, block_lt_of_cell h0, h0, wf_endsA (hwz _ (getD_memA (by omega)))⟩
theorem arrayFive {α : Type} {cs : Array α} (h : cs.size = 5) : ∃ c0 c1 c2 c3 c4, cs = #[c0, c1, c2, c3, c4] := by
  obtain ⟨l⟩ := cs
  match l, h with
  | [c0, c1, c2, c3, c4], _ => exact ⟨c0, c1, c2, c3, c4, rfl⟩
theorem trod_struct5A {P : Program} {t : TypeId} {f0 f1 f2 f3 f4 : Field} {fuel : Nat} {cs : List Value} {x : DataW H × List MemPlace} (ht : P.underlying t = some (.struct #[f0, f1, f2, f3, f4])) (h : DataW.trod enc P w base spare held fuel t cs = some x) :
    ∃ y0 y1 y2 y3 y4 n, DataW.trod enc P w base spare held n f0.type ((cs.drop f0.offset).take (P.cellsOf f0.type)) = some y0 ∧
      DataW.trod enc P w base spare held n f1.type ((cs.drop f1.offset).take (P.cellsOf f1.type)) = some y1 ∧ DataW.trod enc P w base spare held n f2.type ((cs.drop f2.offset).take (P.cellsOf f2.type)) = some y2 ∧
      DataW.trod enc P w base spare held n f3.type ((cs.drop f3.offset).take (P.cellsOf f3.type)) = some y3 ∧ DataW.trod enc P w base spare held n f4.type ((cs.drop f4.offset).take (P.cellsOf f4.type)) = some y4 := by
  obtain ⟨xs, n, _, rfl, hl, hlen, hf⟩ := DataW.trod_struct ht h
  match xs, hlen with
  | [y0, y1, y2, y3, y4], _ => exact ⟨y0, y1, y2, y3, y4, n, by simpa using hf 0 f0 rfl, by simpa using hf 1 f1 rfl, by simpa using hf 2 f2 rfl, by simpa using hf 3 f3 rfl, by simpa using hf 4 f4 rfl⟩
/-- the law's block -/
structure BlkIn (w : World) (v : Value) (dr adr : Int) (D : ByteArray) (fA hA : Option Addr) (fn fc hn hc : Nat) (fx hx : Nat → Int) : Prop where
  eq : v = .agg #[.int .i64 dr, .string D, .int .i64 adr, .slice fA fn fc, .slice hA hn hc]
  fail : RdZ w w.heap.size fA fn fx
  how : RdZ w w.heap.size hA hn hx
  f1 : fn ≤ fc
  f2 : fc ≤ maxLen
  h1 : hn ≤ hc
  h2 : hc ≤ maxLen
theorem blk_of_trod {r : Reach} {b0 : Nat} {v : Value} {d : DataW H} {p : List MemPlace} (hv : Value.okWide Tryz.prog w r b0 39 v) (h : DataW.Trod enc Tryz.prog w base (fun _ => true) held 39 v d p) : ∃ dr adr D fA hA fn fc hn hc fx hx, BlkIn w v dr adr D fA hA fn fc hn hc fx hx := by
  obtain ⟨cs, rfl, hsz⟩ := okWide_struct Tryz.underlying39 hv
  obtain ⟨c0, c1, c2, c3, c4, rfl⟩ := arrayFive (hsz.trans (by kernel_rfl))
  obtain ⟨fuel, hf⟩ := h
  obtain ⟨y0, y1, y2, y3, y4, n, h0, h1, h2, h3, h4⟩ := trod_struct5A Tryz.underlying39 hf
  have k0 : Tryz.prog.cellsOf 3 = 1 := by kernel_rfl
  have k1 : Tryz.prog.cellsOf 9 = 1 := by kernel_rfl
  have k2 : Tryz.prog.cellsOf 33 = 1 := by kernel_rfl
  simp only [k0, k1, k2, Value.cells, List.drop_zero, List.drop_succ_cons, List.take_succ_cons, List.take_zero] at h0 h1 h2 h3 h4
  obtain ⟨a, e0, _, w0⟩ := DataW.trod_int Tryz.underlying3 h0
  obtain ⟨s, e1, _, w1⟩ := DataW.trod_string Tryz.underlying9 h1
  obtain ⟨b, e2, _, w2⟩ := DataW.trod_int Tryz.underlying3 h2
  obtain ⟨fA, fn, fc, fx, e3, q3, r3, s3⟩ := ints_of_trodA h3
  obtain ⟨hA, hn, hc, hx, e4, q4, r4, s4⟩ := ints_of_trodA h4
  injection e0 with e0 _
  injection e1 with e1 _
  injection e2 with e2 _
  subst e0 e1 e2 e3 e4
  exact ⟨a, b, s, fA, hA, fn, fc, hn, hc, fx, hx, rfl, q3, q4, r3, s3, r4, s4⟩
end
end Arr
end Go.Proofs.YtmfjhnfhpcpfeaaGreatDoor
