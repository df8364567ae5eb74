/-
  '(*sha.state).text' and 'sha.Sum' by contracts. Conditions: the table of roots reads as it was laid; fewer than 2^40 bytes.
-/
import Derived.Test.YtikenhcglbfgpaaDoorShaRestM
import Derived.Test.YtikenhcglbfgpaaDoorOwn8
namespace Go.Proofs.YtikenhcglbfgpaaDoor
set_option maxRecDepth 100000
open Go Go.RowKit
set_option linter.unusedVariables false

def outTo (s : M.S8) (k j : Nat) : Nat := if j < 4 * k then M.outB s j else 0
theorem outTo_set (s : M.S8) (k : Nat) (hk : k < 8) : ((((rowArr 32 (outTo s k)).setIfInBounds (4 * k) (.int .u8 (((s.get k >>> 24) % 256 : Nat) : Int))).setIfInBounds (4 * k + 1) (.int .u8 (((s.get k >>> 16) % 256 : Nat) : Int))).setIfInBounds (4 * k + 2) (.int .u8 (((s.get k >>> 8) % 256 : Nat) : Int))).setIfInBounds (4 * k + 3) (.int .u8 (((s.get k) % 256 : Nat) : Int)) = rowArr 32 (outTo s (k + 1)) := by
  rw [rowArr_set (by omega), rowArr_set (by omega), rowArr_set (by omega), rowArr_set (by omega)]
  refine rowArr_congr fun c hc => ?_
  unfold outTo M.outB
  by_cases e3 : c = 4 * k + 3
  · rw [if_pos e3, if_pos (by omega), show c / 4 = k by omega, show 24 - 8 * (c % 4) = 0 by omega]; rfl
  rw [if_neg e3]
  by_cases e2 : c = 4 * k + 2
  · rw [if_pos e2, if_pos (by omega), show c / 4 = k by omega, show 24 - 8 * (c % 4) = 8 by omega]
  rw [if_neg e2]
  by_cases e1 : c = 4 * k + 1
  · rw [if_pos e1, if_pos (by omega), show c / 4 = k by omega, show 24 - 8 * (c % 4) = 16 by omega]
  rw [if_neg e1]
  by_cases e0 : c = 4 * k
  · rw [if_pos e0, if_pos (by omega), show c / 4 = k by omega, show 24 - 8 * (c % 4) = 24 by omega]
  rw [if_neg e0]
  by_cases h : c < 4 * k
  · rw [if_pos h, if_pos (by omega)]
  · rw [if_neg h, if_neg (by omega)]
theorem zero_out (w : World) : (Sem.run Tryd.prog (zeroValue 109) w) = .ok (.agg (rowArr 32 fun _ => 0)) w := by kernel_rfl
theorem byte_shr (x k : Nat) (K : Int) (hK : K = 2 ^ k) : (x : Int) / K % 256 = (((x >>> k) % 256 : Nat) : Int) := by
  subst hK
  rw [Nat.shiftRight_eq_div_pow, Int.natCast_emod, Int.natCast_ediv, Int.natCast_pow]; rfl

set_option maxRecDepth 100000 in
set_option maxHeartbeats 1600000 in
theorem text_any (b : Nat) (s : M.S8) (w : World) (hb : Blk w b 98 (wArr 8 s.get)) :
    Calls Tryd.prog 52 #[.pointer (some ⟨b, 0, none⟩)] w fun e w' => e = .returned (.string (strB 32 (M.outB s))) ∧ Below w.heap.size w w' := by
  have hz := zero_out
  have S0 : Hid (Blk (w.alloc (.cells (rowArr 32 fun _ => 0) 109)) b 98 (wArr 8 s.get)) := Lib.hid (hb.alloc _)
  have B0 : Hid (Blk (w.alloc (.cells (rowArr 32 fun _ => 0) 109)) w.heap.size 109 (rowArr 32 (outTo s 0))) := Lib.hid (Blk.new w _ _)
  have L0 : Hid (Below w.heap.size w (w.alloc (.cells (rowArr 32 fun _ => 0) 109))) := Lib.hid ((Below.refl _ _).alloc (Nat.le_refl _) _)
  have hbl := hb.lt
  clear hb
  go_enter Tryd.func52, Tryd.ntmps52
  go_wp2_with fail
  generalize w.alloc (.cells (rowArr 32 fun _ => 0) 109) = w1 at *
  generalize hh : w.heap.size = h at *
  have HH := Lib.hid hh
  clear hh hz
  go_loopw [4, 5, 7] (fun _ _ x wr => ∃ k : Nat, k ≤ 8 ∧ x = .int .i64 k ∧ Hid (Blk wr h 109 (rowArr 32 (outTo s k))) ∧ Hid (Blk wr b 98 (wArr 8 s.get)) ∧ Hid (Below h w wr)) (fun _ _ x _ => 8 - (intOf x).toNat)
  case atStart => exact ⟨0, by omega, rfl, B0, S0, L0⟩
  case round =>
    obtain ⟨k, hk, rfl, B1, S1, L1⟩ := hrel
    clear B0 S0 L0
    by_cases hlt : k < 8
    · have i1 : (0 : Int) ≤ (k : Int) := by omega
      have i2 : (k : Int) < 8 := by omega
      have c0 : wr.cell? ⟨b, k, none⟩ = some (.int .u32 ((s.get k : Nat) : Int)) := (S1.out.cell k).trans (wArr_get hlt)
      go_wp2_with fail
      go_quiet (fail)
      have B2 : Hid (Blk (wr.drewN nq) h 109 (rowArr 32 (outTo s k))) := Lib.hid (B1.out.drewN nq)
      have S2 : Hid (Blk (wr.drewN nq) b 98 (wArr 8 s.get)) := Lib.hid (S1.out.drewN nq)
      have L2 : Hid (Below h w (wr.drewN nq)) := Lib.hid (below_drewN L1.out nq)
      clear B1 S1 L1 c0
      generalize wr.drewN nq = w2 at *
      have HS := Lib.hid (outTo_set s k hlt)
      generalize hg : s.get k = x at *
      have c0 : w2.cell? ⟨h, 4 * k, none⟩ = some (.int .u8 ((outTo s k (4 * k) : Nat) : Int)) := (B2.out.cell _).trans (rowArr_get (by omega))
      have c1 : w2.cell? ⟨h, 4 * k + 1, none⟩ = some (.int .u8 ((outTo s k (4 * k + 1) : Nat) : Int)) := (B2.out.cell _).trans (rowArr_get (by omega))
      have c2 : w2.cell? ⟨h, 4 * k + 2, none⟩ = some (.int .u8 ((outTo s k (4 * k + 2) : Nat) : Int)) := (B2.out.cell _).trans (rowArr_get (by omega))
      have c3 : w2.cell? ⟨h, 4 * k + 3, none⟩ = some (.int .u8 ((outTo s k (4 * k + 3) : Nat) : Int)) := (B2.out.cell _).trans (rowArr_get (by omega))
      have f0 := B2.out.frozen (4 * k)
      have f1 := B2.out.frozen (4 * k + 1)
      have f2 := B2.out.frozen (4 * k + 2)
      have f3 := B2.out.frozen (4 * k + 3)
      clear hg
      go_wp2_with fail
      go_roundw
      case rel =>
        rw [byte_shr x 24 16777216 rfl, byte_shr x 16 65536 rfl, byte_shr x 8 256 rfl, show (x : Int) % (256 : Int) = ((x % 256 : Nat) : Int) by omega]
        refine ⟨k + 1, by omega, by go_num, ?_, ?_, ?_⟩
        · have h5 := (((B2.out.set_ (4 * k) (.int .u8 (((x >>> 24) % 256 : Nat) : Int))).set_ (4 * k + 1) (.int .u8 (((x >>> 16) % 256 : Nat) : Int))).set_ (4 * k + 2) (.int .u8 (((x >>> 8) % 256 : Nat) : Int))).set_ (4 * k + 3) (.int .u8 ((x % 256 : Nat) : Int))
          rw [HS.out] at h5
          exact Lib.hid h5
        · exact Lib.hid ((((S2.out.far (by simp; omega) _).far (by simp; omega) _).far (by simp; omega) _).far (by simp; omega) _)
        · exact Lib.hid ((((L2.out.setCell (by simp) _).setCell (by simp) _).setCell (by simp) _).setCell (by simp) _)
      case measure => simp [intOf]; omega
    · obtain rfl : k = 8 := by omega
      clear hlt
      have e : rowArr 32 (outTo s 8) = rowArr 32 (M.outB s) := rowArr_congr fun c hc => if_pos (by omega)
      rw [e] at B1
      have hcv := conv_bytes (c := 32) B1.out (X := M.outB s) (o := 0) (n := 32) (fun j hj => by rw [Nat.zero_add]; exact rowArr_get hj)
      clear e
      go_wp2_with fail
      go_ret
      rw [HH.out]
      exact ⟨rfl, L1.out⟩

theorem alloc_state (w : World) : (Instr.alloc 98 true (.tuple #[])).run Tryd.prog w = .ok (.pointer (some ⟨w.heap.size, 0, none⟩)) (w.alloc (.cells (wArr 8 fun _ => 0) 98)) := by kernel_rfl

set_option maxRecDepth 100000 in
set_option maxHeartbeats 1600000 in
theorem sum_any (A : Option Addr) (n c B : Nat) (X : Nat → Nat) (w : World) (hx : RdB w B A n X) (hX : ∀ j, X j < 256) (hB : B ≤ w.heap.size) (hnc : n ≤ c) (hcm : c ≤ maxLen) (hn : n ≤ 1099511627776) (hl : Laid w) :
    Calls Tryd.prog 46 #[.slice A n c] w fun e w' => e = .returned (.string (strB 32 (M.sum n X))) ∧ Below w.heap.size w w' := by
  have HX := Lib.hid hx
  have HL := Lib.hid hl
  have hpos := hl.pos
  have HC := Lib.hid hcm
  clear hx hl hcm
  go_enter Tryd.func46, Tryd.ntmps46
  go_wp2_with fail
  refine (begin_any _).mono ?_
  rintro e w1 ⟨rfl, hb1⟩
  have L1 := Lib.hid hb1
  have hz1 := hb1.size
  clear hb1
  go_wp2_with (with_reducible refine wpList_allocX ?_ 98 ?_ _ (alloc_state _) ?_; rfl; rfl; refine of_hid ?_)
  refine Lib.hid ?_
  refine wpList_storeBlk rfl 98 (.tmp 3) (.tmp 4) rfl w1.heap.size (wArr 8 fun _ => 0) (wArr 8 M.init.get) rfl rfl (Blk.new _ _ _) (by rw [wArr_size]; exact isize_state) (by rw [wArr_size, wArr_size]) (wArr_one _ _) ?_
  intro w2 hb2 hg2 hs2
  have B2 := Lib.hid hb2
  have L2 : Hid (Below w.heap.size w w2) := Lib.hid (L1.out.trans (((Below.refl _ _).alloc hz1 _).trans (Only.below hg2 hz1 (by simp; omega))))
  clear hb2 hg2 hs2 L1
  have hb0 : 0 < w1.heap.size := by omega
  have hne : ∀ g o, 0 < n → A = some ⟨g, o, none⟩ → g ≠ w1.heap.size := fun g o hn0 e => by
    obtain ⟨g', o', e2, h2, _⟩ := HX.out 0 hn0
    rw [e] at e2
    injection e2 with e2
    injection e2 with e2 _
    omega
  have HNE := Lib.hid hne
  clear hne
  go_wp2_with fail
  refine (add_any w1.heap.size M.init A n c X B w2 B2.out M.init_ok (HX.out.below L2.out hB) hX (Nat.le_trans hB L2.out.size) HNE.out hnc HC.out (HL.out.below L2.out hpos) hb0).mono ?_
  rintro e w3 ⟨rfl, hb3, ho3⟩
  have B3 := Lib.hid hb3
  have L3 := Lib.hid (L2.out.trans (ho3.below hz1 L2.out.size))
  clear hb3 ho3 B2 L2
  go_wp2_with fail
  refine (rest_any A n c B X w3 (HX.out.below L3.out hB) (Nat.le_trans hB L3.out.size) hnc hn).mono ?_
  rintro e w4 ⟨rfl, hb4, hl4⟩
  have R4 := Lib.hid hb4
  have B4 := Lib.hid (B3.out.below hl4 B3.out.lt)
  have L4 := Lib.hid (L3.out.trans (hl4.mono L3.out.size))
  have hlt : w1.heap.size < w3.heap.size := B3.out.lt
  clear hb4 hl4 B3 L3
  generalize w3.heap.size = g at *
  go_wp2_with fail
  refine (add_any w1.heap.size (M.addB M.init X (n / 64)) (some ⟨g, 0, none⟩) (M.restN n) (M.restN n) (M.rest n X) (g + 1) w4 B4.out (M.addB_ok M.init_ok X _) (rdb_of_blk R4.out (fun j _ => M.rest_lt hX 8 j)) (fun j => M.rest_lt hX 8 j) R4.out.lt (fun g' o' _ e => by injection e with e; injection e with e _; omega) (Nat.le_refl _) (by have := restN_or n; unfold maxLen; omega) (HL.out.below L4.out hpos) hb0).mono ?_
  rintro e w5 ⟨rfl, hb5, ho5⟩
  have B5 := Lib.hid hb5
  have L5 := Lib.hid (L4.out.trans (ho5.below hz1 L4.out.size))
  clear hb5 ho5 B4 L4 R4
  go_wp2_with fail
  refine (text_any w1.heap.size _ w5 B5.out).mono ?_
  rintro e w6 ⟨rfl, hl6⟩
  have L6 := Lib.hid (L5.out.trans (hl6.mono L5.out.size))
  clear hl6 L5
  go_wp2_with fail
  go_ret
  exact ⟨rfl, L6.out⟩
end Go.Proofs.YtikenhcglbfgpaaDoor
namespace Go.Proofs.YtikenhcglbfgpaaDoor
set_option maxRecDepth 100000
open Go Go.RowKit
set_option linter.unusedVariables false

def hexd (x : Nat) : Nat := if x < 10 then 48 + x else 87 + x
def hexB (X : Nat → Nat) (j : Nat) : Nat := if j % 2 = 0 then hexd (X (j / 2) / 16) else hexd (X (j / 2) % 16)
theorem hexd_lt {x : Nat} (h : x < 16) : hexd x < 256 := by unfold hexd; split <;> omega
theorem hexB_lt {X : Nat → Nat} (hX : ∀ j, X j < 256) (j : Nat) : hexB X j < 256 := by
  unfold hexB
  have := hX (j / 2)
  split
  · exact hexd_lt (by omega)
  · exact hexd_lt (by omega)
def hexTo (X : Nat → Nat) (k j : Nat) : Nat := if j < 2 * k then hexB X j else 0
theorem hexTo_set (X : Nat → Nat) (k : Nat) (hk : k < 32) : ((rowArr 64 (hexTo X k)).setIfInBounds (2 * k) (.int .u8 ((hexd (X k / 16) : Nat) : Int))).setIfInBounds (2 * k + 1) (.int .u8 ((hexd (X k % 16) : Nat) : Int)) = rowArr 64 (hexTo X (k + 1)) := by
  rw [rowArr_set (by omega), rowArr_set (by omega)]
  refine rowArr_congr fun c hc => ?_
  unfold hexTo hexB
  by_cases e1 : c = 2 * k + 1
  · have h2 : c / 2 = k := by omega
    have h3 : c < 2 * (k + 1) := by omega
    have h4 : ¬ c % 2 = 0 := by omega
    rw [if_pos e1, h2, if_pos h3, if_neg h4]
  rw [if_neg e1]
  by_cases e0 : c = 2 * k
  · have h2 : c / 2 = k := by omega
    have h3 : c < 2 * (k + 1) := by omega
    have h4 : c % 2 = 0 := by omega
    rw [if_pos e0, h2, if_pos h3, if_pos h4]
  rw [if_neg e0]
  by_cases h : c < 2 * k
  · rw [if_pos h, if_pos (show c < 2 * (k + 1) by omega)]
  · rw [if_neg h, if_neg (show ¬ c < 2 * (k + 1) by omega)]
theorem strB_getElem (n : Nat) (X : Nat → Nat) (k : Nat) (hk : k < n) (hX : X k < 256) (h : k < (strB n X).size) : ((strB n X)[k]'h).toNat = X k := by
  have e : (strB n X).data.toList[k]? = some (UInt8.ofNat (X k)) := by rw [strB_data]; simp [hk]
  have e2 : (strB n X).data[k]? = some (UInt8.ofNat (X k)) := by rw [← Array.getElem?_toList]; exact e
  have e3 : (strB n X)[k]'h = UInt8.ofNat (X k) := by
    have := Array.getElem?_eq_some_iff.1 e2
    exact this.2
  rw [e3, UInt8.toNat_ofNat']
  omega
/-- 's[k]' -/
theorem index_str (n : Nat) (X : Nat → Nat) (k : Nat) (hk : k < n) (hX : X k < 256) (K : IntKind) (w : World) : (Instr.index 9 (.string (strB n X)) (.int K (k : Int))).run Tryd.prog w = .ok (.int .u8 ((X k : Nat) : Int)) w := by
  have hs := strB_size n X
  have h : k < (strB n X).size := by omega
  have := strB_getElem n X k hk hX h
  simp [Instr.index, run_underlying Tryd.underlying9, asIntOf, Sem.run_bind, h, this]
theorem hexS_is : ({ data := #[48, 49, 50, 51, 52, 53, 54, 55, 56, 57, 97, 98, 99, 100, 101, 102] } : ByteArray) = strB 16 hexd := by kernel_rfl
theorem index_hex (y : Nat) (hy : y < 16) (w : World) : (Instr.index 9 (.string { data := #[48, 49, 50, 51, 52, 53, 54, 55, 56, 57, 97, 98, 99, 100, 101, 102] }) (.int .u8 (y : Int))).run Tryd.prog w = .ok (.int .u8 ((hexd y : Nat) : Int)) w := by
  rw [hexS_is]
  exact index_str 16 hexd y hy (hexd_lt hy) .u8 w
end Go.Proofs.YtikenhcglbfgpaaDoor
namespace Go.Proofs.YtikenhcglbfgpaaDoor
set_option maxRecDepth 100000
open Go Go.RowKit
set_option linter.unusedVariables false

theorem make_room (n : Nat) (hn : n ≤ 2199023255552) (w : World) (l : Int) (hl : l = (n : Int)) :
    (Instr.makeSlice 38 (.int .i64 0) (.int .i64 l)).run Tryd.prog w = .ok (.slice (some ⟨w.heap.size, 0, none⟩) 0 n) (w.alloc (.cells (rowArr n (fun _ => 0)) 5)) := by
  subst hl
  obtain ⟨i0, hi, hz0, hz1, hz2⟩ := info_parts info_u8
  have h := run_make (P := Tryd.prog) (w := w) 38 5 i0 (.int .u8 0) Tryd.underlying38 hi hz0 .i64 .i64 (0 : Int) (n : Int) (by omega) (by omega) (by rw [hz2]; omega) (by omega)
  rw [h, hz1, Int.toNat_natCast, Nat.mul_one]
  show _ = _
  rw [show (Value.int .u8 0).cells = #[.int .u8 0] from rfl, madeCells_one, replicate_row]
  rfl
theorem make_long (n : Nat) (hn : n ≤ 2199023255552) (w : World) (l : Int) (hl : l = (n : Int)) :
    (Instr.makeSlice 38 (.int .i64 l) (.int .i64 l)).run Tryd.prog w = .ok (.slice (some ⟨w.heap.size, 0, none⟩) n n) (w.alloc (.cells (rowArr n (fun _ => 0)) 5)) := by
  subst hl
  obtain ⟨i0, hi, hz0, hz1, hz2⟩ := info_parts info_u8
  have h := run_make (P := Tryd.prog) (w := w) 38 5 i0 (.int .u8 0) Tryd.underlying38 hi hz0 .i64 .i64 (n : Int) (n : Int) (by omega) (by omega) (by rw [hz2]; omega) (by omega)
  rw [h, hz1, Int.toNat_natCast, Nat.mul_one]
  show _ = _
  rw [show (Value.int .u8 0).cells = #[.int .u8 0] from rfl, madeCells_one, replicate_row]
/-- an append to the call's own row turns nothing that was there -/
theorem own_grown {w0 w w' : World} {base n : Nat} {v : Value} {X : Nat → Nat} (hb : Below base w0 w) (ho : Own8 w base v n X) (hg : w.grownBy w' v.ownBlock) (hs : base ≤ w.heap.size) : Below base w0 w' :=
  hb.trans ⟨hg.os, hg.tape, hg.output, hg.size, fun k hk => hg.block k (by omega) (fun e => by have := (ho.lt e.symm).2; omega)⟩

set_option maxRecDepth 100000 in
set_option maxHeartbeats 1600000 in
theorem seal_any (A : Option Addr) (n c B : Nat) (X : Nat → Nat) (w : World) (hx : RdB w B A n X) (hX : ∀ j, X j < 256) (hB : B ≤ w.heap.size) (hnc : n ≤ c) (hcm : c ≤ maxLen) (h0 : A = none → c = 0) (hn : n ≤ 1099511627776) (hl : Laid w) :
    Calls Tryd.prog 40 #[.slice A n c] w fun e w' => ∃ v, e = .returned v ∧ Own8 w' w.heap.size v (n + 32) (cat n X (M.sum n X)) ∧ Below w.heap.size w w' := by
  have HX := Lib.hid hx
  have HL := Lib.hid hl
  have hpos := hl.pos
  have HC := Lib.hid hcm
  have H0 := Lib.hid h0
  have hmk := fun W => make_room (n + 32) (by omega) W ((n : Int) + 32) (by omega)
  have O1 : Hid (Own8 (w.alloc (.cells (rowArr (n + 32) fun _ => 0) 5)) w.heap.size (.slice (some ⟨w.heap.size, 0, none⟩) 0 (n + 32)) 0 (fun _ => 0)) := Lib.hid (Own8.of_blk (Blk.new w _ _) (Nat.le_refl _) (by omega) (by unfold maxLen; omega))
  have L1 : Hid (Below w.heap.size w (w.alloc (.cells (rowArr (n + 32) fun _ => 0) 5))) := Lib.hid ((Below.refl _ _).alloc (Nat.le_refl _) _)
  clear hx hl hcm h0
  go_enter Tryd.func40, Tryd.ntmps40
  go_wp2_with ((with_reducible refine wpList_append_rd rfl (.tmp 8) (.tmp 9) rfl rfl rfl O1.out (HX.out.below L1.out hB) H0.out hnc (by omega) (by simp) ?_); intro v2 w2 ho2 hg2 _; refine of_hid ?_)
  refine Lib.hid ?_
  have O2 := Lib.hid ho2
  have L2 := Lib.hid (own_grown L1.out O1.out hg2 (by simp))
  clear ho2 hg2 O1 L1 hmk
  go_wp2_with fail
  refine (sum_any A n c B X w2 (HX.out.below L2.out hB) hX (Nat.le_trans hB L2.out.size) hnc HC.out hn (HL.out.below L2.out hpos)).mono ?_
  rintro e w3 ⟨rfl, hl3⟩
  have O3 := Lib.hid (O2.out.below hl3 (Nat.le_refl _))
  have L3 := Lib.hid (L2.out.trans (hl3.mono L2.out.size))
  clear hl3 O2 L2
  go_wp2_with ((with_reducible refine wpList_append_txt rfl (.tmp 11) (.tmp 13) rfl rfl rfl O3.out (fun j _ => M.sum_lt n X j) (by omega) L3.out.size ?_); intro v4 w4 ho4 hg4; refine of_hid ?_)
  refine Lib.hid ?_
  have L4 := Lib.hid (own_grown L3.out O3.out hg4 L3.out.size)
  have O4 : Hid (Own8 w4 w.heap.size v4 (n + 32) (cat n X (M.sum n X))) := by
    have h := ho4
    rw [show 0 + n + 32 = n + 32 by omega] at h
    exact Lib.hid (h.congr fun j hj => by
      unfold cat
      by_cases h : j < n
      · rw [if_pos (by omega), if_neg (by omega), if_pos h]; rfl
      · rw [if_neg (by omega), if_neg h, show j - (0 + n) = j - n by omega])
  clear ho4 hg4
  go_wp2_with fail
  go_ret
  exact ⟨_, rfl, O4.out, L4.out⟩
end Go.Proofs.YtikenhcglbfgpaaDoor
