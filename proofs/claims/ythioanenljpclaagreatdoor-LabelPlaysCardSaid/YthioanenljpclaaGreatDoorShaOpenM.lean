/-
  '(*sha.state).text' and 'sha.Sum' by contracts. Conditions: the table of roots reads as it was laid; fewer than 2^40 bytes.
-/
import Derived.Test.YthioanenljpclaaGreatDoorShaRestM
import Derived.Test.YthioanenljpclaaGreatDoorOwn8
import Derived.Test.YthioanenljpclaaGreatDoorDrawSeqM
namespace Go.Proofs.YthioanenljpclaaGreatDoor
set_option maxRecDepth 100000
open Go Go.RowKit
set_option linter.unusedVariables false

def outTo (s : M.S8) (k j : Nat) : Nat := if j < 4 * k then M.outB s j else 0
theorem outTo_set (s : M.S8) (k : Nat) (hk : k < 8) : ((((rowArr 32 (outTo s k)).setIfInBounds (4 * k) (.int .u8 (((s.get k >>> 24) % 256 : Nat) : Int))).setIfInBounds (4 * k + 1) (.int .u8 (((s.get k >>> 16) % 256 : Nat) : Int))).setIfInBounds (4 * k + 2) (.int .u8 (((s.get k >>> 8) % 256 : Nat) : Int))).setIfInBounds (4 * k + 3) (.int .u8 (((s.get k) % 256 : Nat) : Int)) = rowArr 32 (outTo s (k + 1)) := by
  rw [rowArr_set (by omega), rowArr_set (by omega), rowArr_set (by omega), rowArr_set (by omega)]
  refine rowArr_congr fun c hc => ?_
  unfold outTo M.outB
  by_cases e3 : c = 4 * k + 3
  · rw [if_pos e3, if_pos (by omega), show c / 4 = k by omega, show 24 - 8 * (c % 4) = 0 by omega]; rfl
  rw [if_neg e3]
  by_cases e2 : c = 4 * k + 2
  · rw [if_pos e2, if_pos (by omega), show c / 4 = k by omega, show 24 - 8 * (c % 4) = 8 by omega]
  rw [if_neg e2]
  by_cases e1 : c = 4 * k + 1
  · rw [if_pos e1, if_pos (by omega), show c / 4 = k by omega, show 24 - 8 * (c % 4) = 16 by omega]
  rw [if_neg e1]
  by_cases e0 : c = 4 * k
  · rw [if_pos e0, if_pos (by omega), show c / 4 = k by omega, show 24 - 8 * (c % 4) = 24 by omega]
  rw [if_neg e0]
  by_cases h : c < 4 * k
  · rw [if_pos h, if_pos (by omega)]
  · rw [if_neg h, if_neg (by omega)]
theorem zero_out (w : World) : (Sem.run Tryz.prog (zeroValue 158) w) = .ok (.agg (rowArr 32 fun _ => 0)) w := by kernel_rfl
theorem byte_shr (x k : Nat) (K : Int) (hK : K = 2 ^ k) : (x : Int) / K % 256 = (((x >>> k) % 256 : Nat) : Int) := by
  subst hK
  rw [Nat.shiftRight_eq_div_pow, Int.natCast_emod, Int.natCast_ediv, Int.natCast_pow]; rfl

set_option maxRecDepth 100000 in
set_option maxHeartbeats 1600000 in
theorem text_any (b : Nat) (s : M.S8) (w : World) (hb : Blk w b 144 (wArr 8 s.get)) :
    Calls Tryz.prog 97 #[.pointer (some ⟨b, 0, none⟩)] w fun e w' => e = .returned (.string (strB 32 (M.outB s))) ∧ Below w.heap.size w w' := by
  have hz := zero_out
  have S0 : Hid (Blk (w.alloc (.cells (rowArr 32 fun _ => 0) 158)) b 144 (wArr 8 s.get)) := Lib.hid (hb.alloc _)
  have B0 : Hid (Blk (w.alloc (.cells (rowArr 32 fun _ => 0) 158)) w.heap.size 158 (rowArr 32 (outTo s 0))) := Lib.hid (Blk.new w _ _)
  have L0 : Hid (Below w.heap.size w (w.alloc (.cells (rowArr 32 fun _ => 0) 158))) := Lib.hid ((Below.refl _ _).alloc (Nat.le_refl _) _)
  have hbl := hb.lt
  clear hb
  go_enter Tryz.func97, Tryz.ntmps97
  go_wp2_with fail
  generalize w.alloc (.cells (rowArr 32 fun _ => 0) 158) = w1 at *
  generalize hh : w.heap.size = h at *
  have HH := Lib.hid hh
  clear hh hz
  go_loopw [4, 5, 7] (fun _ _ x wr => ∃ k : Nat, k ≤ 8 ∧ x = .int .i64 k ∧ Hid (Blk wr h 158 (rowArr 32 (outTo s k))) ∧ Hid (Blk wr b 144 (wArr 8 s.get)) ∧ Hid (Below h w wr)) (fun _ _ x _ => 8 - (intOf x).toNat)
  case atStart => exact ⟨0, by omega, rfl, B0, S0, L0⟩
  case round =>
    obtain ⟨k, hk, rfl, B1, S1, L1⟩ := hrel
    clear B0 S0 L0
    by_cases hlt : k < 8
    · have i1 : (0 : Int) ≤ (k : Int) := by omega
      have i2 : (k : Int) < 8 := by omega
      have c0 : wr.cell? ⟨b, k, none⟩ = some (.int .u32 ((s.get k : Nat) : Int)) := (S1.out.cell k).trans (wArr_get hlt)
      go_wp2_with fail
      go_quiet (fail)
      have B2 : Hid (Blk (wr.drewN nq) h 158 (rowArr 32 (outTo s k))) := Lib.hid (B1.out.drewN nq)
      have S2 : Hid (Blk (wr.drewN nq) b 144 (wArr 8 s.get)) := Lib.hid (S1.out.drewN nq)
      have L2 : Hid (Below h w (wr.drewN nq)) := Lib.hid (below_drewN L1.out nq)
      clear B1 S1 L1 c0
      generalize wr.drewN nq = w2 at *
      have HS := Lib.hid (outTo_set s k hlt)
      generalize hg : s.get k = x at *
      have c0 : w2.cell? ⟨h, 4 * k, none⟩ = some (.int .u8 ((outTo s k (4 * k) : Nat) : Int)) := (B2.out.cell _).trans (rowArr_get (by omega))
      have c1 : w2.cell? ⟨h, 4 * k + 1, none⟩ = some (.int .u8 ((outTo s k (4 * k + 1) : Nat) : Int)) := (B2.out.cell _).trans (rowArr_get (by omega))
      have c2 : w2.cell? ⟨h, 4 * k + 2, none⟩ = some (.int .u8 ((outTo s k (4 * k + 2) : Nat) : Int)) := (B2.out.cell _).trans (rowArr_get (by omega))
      have c3 : w2.cell? ⟨h, 4 * k + 3, none⟩ = some (.int .u8 ((outTo s k (4 * k + 3) : Nat) : Int)) := (B2.out.cell _).trans (rowArr_get (by omega))
      have f0 := B2.out.frozen (4 * k)
      have f1 := B2.out.frozen (4 * k + 1)
      have f2 := B2.out.frozen (4 * k + 2)
      have f3 := B2.out.frozen (4 * k + 3)
      clear hg
      go_wp2_with fail
      go_roundw
      case rel =>
        rw [byte_shr x 24 16777216 rfl, byte_shr x 16 65536 rfl, byte_shr x 8 256 rfl, show (x : Int) % (256 : Int) = ((x % 256 : Nat) : Int) by omega]
        refine ⟨k + 1, by omega, by go_num, ?_, ?_, ?_⟩
        · have h5 := (((B2.out.set_ (4 * k) (.int .u8 (((x >>> 24) % 256 : Nat) : Int))).set_ (4 * k + 1) (.int .u8 (((x >>> 16) % 256 : Nat) : Int))).set_ (4 * k + 2) (.int .u8 (((x >>> 8) % 256 : Nat) : Int))).set_ (4 * k + 3) (.int .u8 ((x % 256 : Nat) : Int))
          rw [HS.out] at h5
          exact Lib.hid h5
        · exact Lib.hid ((((S2.out.far (by simp; omega) _).far (by simp; omega) _).far (by simp; omega) _).far (by simp; omega) _)
        · exact Lib.hid ((((L2.out.setCell (by simp) _).setCell (by simp) _).setCell (by simp) _).setCell (by simp) _)
      case measure => simp [intOf]; omega
    · obtain rfl : k = 8 := by omega
      clear hlt
      have e : rowArr 32 (outTo s 8) = rowArr 32 (M.outB s) := rowArr_congr fun c hc => if_pos (by omega)
      rw [e] at B1
      have hcv := conv_bytes (c := 32) B1.out (X := M.outB s) (o := 0) (n := 32) (fun j hj => by rw [Nat.zero_add]; exact rowArr_get hj)
      clear e
      go_wp2_with fail
      go_ret
      rw [HH.out]
      exact ⟨rfl, L1.out⟩

theorem alloc_state (w : World) : (Instr.alloc 144 true (.tuple #[])).run Tryz.prog w = .ok (.pointer (some ⟨w.heap.size, 0, none⟩)) (w.alloc (.cells (wArr 8 fun _ => 0) 144)) := by kernel_rfl

set_option maxRecDepth 100000 in
set_option maxHeartbeats 1600000 in
theorem sum_any (A : Option Addr) (n c B : Nat) (X : Nat → Nat) (w : World) (hx : RdB w B A n X) (hX : ∀ j, X j < 256) (hB : B ≤ w.heap.size) (hnc : n ≤ c) (hcm : c ≤ maxLen) (hn : n ≤ 1099511627776) (hl : Laid w) :
    Calls Tryz.prog 86 #[.slice A n c] w fun e w' => e = .returned (.string (strB 32 (M.sum n X))) ∧ Below w.heap.size w w' := by
  have HX := Lib.hid hx
  have HL := Lib.hid hl
  have hpos := hl.pos
  have HC := Lib.hid hcm
  clear hx hl hcm
  go_enter Tryz.func86, Tryz.ntmps86
  go_wp2_with fail
  refine (begin_any _).mono ?_
  rintro e w1 ⟨rfl, hb1⟩
  have L1 := Lib.hid hb1
  have hz1 := hb1.size
  clear hb1
  go_wp2_with (with_reducible refine wpList_allocX ?_ 144 ?_ _ (alloc_state _) ?_; rfl; rfl; refine of_hid ?_)
  refine Lib.hid ?_
  refine wpList_storeBlk rfl 144 (.tmp 3) (.tmp 4) rfl w1.heap.size (wArr 8 fun _ => 0) (wArr 8 M.init.get) rfl rfl (Blk.new _ _ _) (by rw [wArr_size]; exact isize_state) (by rw [wArr_size, wArr_size]) (wArr_one _ _) ?_
  intro w2 hb2 hg2 hs2
  have B2 := Lib.hid hb2
  have L2 : Hid (Below w.heap.size w w2) := Lib.hid (L1.out.trans (((Below.refl _ _).alloc hz1 _).trans (Only.below hg2 hz1 (by simp; omega))))
  clear hb2 hg2 hs2 L1
  have hb0 : 0 < w1.heap.size := by omega
  have hne : ∀ g o, 0 < n → A = some ⟨g, o, none⟩ → g ≠ w1.heap.size := fun g o hn0 e => by
    obtain ⟨g', o', e2, h2, _⟩ := HX.out 0 hn0
    rw [e] at e2
    injection e2 with e2
    injection e2 with e2 _
    omega
  have HNE := Lib.hid hne
  clear hne
  go_wp2_with fail
  refine (add_any w1.heap.size M.init A n c X B w2 B2.out M.init_ok (HX.out.below L2.out hB) hX (Nat.le_trans hB L2.out.size) HNE.out hnc HC.out (HL.out.below L2.out hpos) hb0).mono ?_
  rintro e w3 ⟨rfl, hb3, ho3⟩
  have B3 := Lib.hid hb3
  have L3 := Lib.hid (L2.out.trans (ho3.below hz1 L2.out.size))
  clear hb3 ho3 B2 L2
  go_wp2_with fail
  refine (rest_any A n c B X w3 (HX.out.below L3.out hB) (Nat.le_trans hB L3.out.size) hnc hn).mono ?_
  rintro e w4 ⟨rfl, hb4, hl4⟩
  have R4 := Lib.hid hb4
  have B4 := Lib.hid (B3.out.below hl4 B3.out.lt)
  have L4 := Lib.hid (L3.out.trans (hl4.mono L3.out.size))
  have hlt : w1.heap.size < w3.heap.size := B3.out.lt
  clear hb4 hl4 B3 L3
  generalize w3.heap.size = g at *
  go_wp2_with fail
  refine (add_any w1.heap.size (M.addB M.init X (n / 64)) (some ⟨g, 0, none⟩) (M.restN n) (M.restN n) (M.rest n X) (g + 1) w4 B4.out (M.addB_ok M.init_ok X _) (rdb_of_blk R4.out (fun j _ => M.rest_lt hX 8 j)) (fun j => M.rest_lt hX 8 j) R4.out.lt (fun g' o' _ e => by injection e with e; injection e with e _; omega) (Nat.le_refl _) (by have := restN_or n; unfold maxLen; omega) (HL.out.below L4.out hpos) hb0).mono ?_
  rintro e w5 ⟨rfl, hb5, ho5⟩
  have B5 := Lib.hid hb5
  have L5 := Lib.hid (L4.out.trans (ho5.below hz1 L4.out.size))
  clear hb5 ho5 B4 L4 R4
  go_wp2_with fail
  refine (text_any w1.heap.size _ w5 B5.out).mono ?_
  rintro e w6 ⟨rfl, hl6⟩
  have L6 := Lib.hid (L5.out.trans (hl6.mono L5.out.size))
  clear hl6 L5
  go_wp2_with fail
  go_ret
  exact ⟨rfl, L6.out⟩
end Go.Proofs.YthioanenljpclaaGreatDoor
namespace Go.Proofs.YthioanenljpclaaGreatDoor
set_option maxRecDepth 100000
open Go Go.RowKit
set_option linter.unusedVariables false

end Go.Proofs.YthioanenljpclaaGreatDoor
namespace Go.Proofs.YthioanenljpclaaGreatDoor
set_option maxRecDepth 100000
open Go Go.RowKit
set_option linter.unusedVariables false

theorem make_room (n : Nat) (hn : n ≤ 2199023255552) (w : World) (l : Int) (hl : l = (n : Int)) :
    (Instr.makeSlice 51 (.int .i64 0) (.int .i64 l)).run Tryz.prog w = .ok (.slice (some ⟨w.heap.size, 0, none⟩) 0 n) (w.alloc (.cells (rowArr n (fun _ => 0)) 5)) := by
  subst hl
  obtain ⟨i0, hi, hz0, hz1, hz2⟩ := info_parts info_u8
  have h := run_make (P := Tryz.prog) (w := w) 51 5 i0 (.int .u8 0) Tryz.underlying51 hi hz0 .i64 .i64 (0 : Int) (n : Int) (by omega) (by omega) (by rw [hz2]; omega) (by omega)
  rw [h, hz1, Int.toNat_natCast, Nat.mul_one]
  show _ = _
  rw [show (Value.int .u8 0).cells = #[.int .u8 0] from rfl, madeCells_one, replicate_row]
  rfl
theorem make_long (n : Nat) (hn : n ≤ 2199023255552) (w : World) (l : Int) (hl : l = (n : Int)) :
    (Instr.makeSlice 51 (.int .i64 l) (.int .i64 l)).run Tryz.prog w = .ok (.slice (some ⟨w.heap.size, 0, none⟩) n n) (w.alloc (.cells (rowArr n (fun _ => 0)) 5)) := by
  subst hl
  obtain ⟨i0, hi, hz0, hz1, hz2⟩ := info_parts info_u8
  have h := run_make (P := Tryz.prog) (w := w) 51 5 i0 (.int .u8 0) Tryz.underlying51 hi hz0 .i64 .i64 (n : Int) (n : Int) (by omega) (by omega) (by rw [hz2]; omega) (by omega)
  rw [h, hz1, Int.toNat_natCast, Nat.mul_one]
  show _ = _
  rw [show (Value.int .u8 0).cells = #[.int .u8 0] from rfl, madeCells_one, replicate_row]
/-- an append to the call's own row turns nothing that was there -/
theorem own_grown {w0 w w' : World} {base n : Nat} {v : Value} {X : Nat → Nat} (hb : Below base w0 w) (ho : Own8 w base v n X) (hg : w.grownBy w' v.ownBlock) (hs : base ≤ w.heap.size) : Below base w0 w' :=
  hb.trans ⟨hg.os, hg.tape, hg.output, hg.size, fun k hk => hg.block k (by omega) (fun e => by have := (ho.lt e.symm).2; omega)⟩

set_option maxRecDepth 100000 in
set_option maxHeartbeats 1600000 in
theorem seal_any (A : Option Addr) (n c B : Nat) (X : Nat → Nat) (w : World) (hx : RdB w B A n X) (hX : ∀ j, X j < 256) (hB : B ≤ w.heap.size) (hnc : n ≤ c) (hcm : c ≤ maxLen) (h0 : A = none → c = 0) (hn : n ≤ 1099511627776) (hl : Laid w) :
    Calls Tryz.prog 70 #[.slice A n c] w fun e w' => ∃ v, e = .returned v ∧ Own8 w' w.heap.size v (n + 32) (cat n X (M.sum n X)) ∧ Below w.heap.size w w' := by
  have HX := Lib.hid hx
  have HL := Lib.hid hl
  have hpos := hl.pos
  have HC := Lib.hid hcm
  have H0 := Lib.hid h0
  have hmk := fun W => make_room (n + 32) (by omega) W ((n : Int) + 32) (by omega)
  have O1 : Hid (Own8 (w.alloc (.cells (rowArr (n + 32) fun _ => 0) 5)) w.heap.size (.slice (some ⟨w.heap.size, 0, none⟩) 0 (n + 32)) 0 (fun _ => 0)) := Lib.hid (Own8.of_blk (Blk.new w _ _) (Nat.le_refl _) (by omega) (by unfold maxLen; omega))
  have L1 : Hid (Below w.heap.size w (w.alloc (.cells (rowArr (n + 32) fun _ => 0) 5))) := Lib.hid ((Below.refl _ _).alloc (Nat.le_refl _) _)
  clear hx hl hcm h0
  go_enter Tryz.func70, Tryz.ntmps70
  go_wp2_with ((with_reducible refine wpList_append_rd rfl (.tmp 8) (.tmp 9) rfl rfl rfl O1.out (HX.out.below L1.out hB) H0.out hnc (by omega) (by simp) ?_); intro v2 w2 ho2 hg2 _; refine of_hid ?_)
  refine Lib.hid ?_
  have O2 := Lib.hid ho2
  have L2 := Lib.hid (own_grown L1.out O1.out hg2 (by simp))
  clear ho2 hg2 O1 L1 hmk
  go_wp2_with fail
  refine (sum_any A n c B X w2 (HX.out.below L2.out hB) hX (Nat.le_trans hB L2.out.size) hnc HC.out hn (HL.out.below L2.out hpos)).mono ?_
  rintro e w3 ⟨rfl, hl3⟩
  have O3 := Lib.hid (O2.out.below hl3 (Nat.le_refl _))
  have L3 := Lib.hid (L2.out.trans (hl3.mono L2.out.size))
  clear hl3 O2 L2
  go_wp2_with ((with_reducible refine wpList_append_txt rfl (.tmp 11) (.tmp 13) rfl rfl rfl O3.out (fun j _ => M.sum_lt n X j) (by omega) L3.out.size ?_); intro v4 w4 ho4 hg4; refine of_hid ?_)
  refine Lib.hid ?_
  have L4 := Lib.hid (own_grown L3.out O3.out hg4 L3.out.size)
  have O4 : Hid (Own8 w4 w.heap.size v4 (n + 32) (cat n X (M.sum n X))) := by
    have h := ho4
    rw [show 0 + n + 32 = n + 32 by omega] at h
    exact Lib.hid (h.congr fun j hj => by
      unfold cat
      by_cases h : j < n
      · rw [if_pos (by omega), if_neg (by omega), if_pos h]; rfl
      · rw [if_neg (by omega), if_neg h, show j - (0 + n) = j - n by omega])
  clear ho4 hg4
  go_wp2_with fail
  go_ret
  exact ⟨_, rfl, O4.out, L4.out⟩
end Go.Proofs.YthioanenljpclaaGreatDoor
namespace Go.Proofs.YthioanenljpclaaGreatDoor
set_option maxRecDepth 100000
open Go Go.RowKit
set_option linter.unusedVariables false

theorem slice_to (A : Option Addr) (n c hi : Nat) (H : Int) (hH : H = (hi : Int)) (h : hi ≤ c) (w : World) :
    (Instr.sliceAt 51 (.slice A n c) none (some (.int .i64 H)) none).run Tryz.prog w = .ok (.slice (subA A c 0) hi c) w := by
  subst hH
  have hu : Tryz.prog.underlying 51 = some (.slice (Tryz.prog.elem 51)) := by kernel_rfl
  have he : Tryz.prog.elem 51 = 5 := by kernel_rfl
  rw [run_sliceAt_slice (P := Tryz.prog) (w := w) (h := hu), run_slice_h (P := Tryz.prog) (w := w) 51 A n c hu .i64 (hi : Int) (by omega) (by omega), he, sizeOf_u8]
  simp [sliced, subA]
/-- what a seal must be -/
def sealed (n : Nat) (X : Nat → Nat) : Prop := ∀ j, j < 32 → M.sum (n - 32) X j = X (n - 32 + j)
theorem strB_eq_iff {n : Nat} {X Y : Nat → Nat} (hX : ∀ j, j < n → X j < 256) (hY : ∀ j, j < n → Y j < 256) : ((strB n X).toList == (strB n Y).toList) = true ↔ ∀ j, j < n → X j = Y j := by
  rw [beq_iff_eq]
  constructor
  · intro h
    exact (strB_inj hX hY h).2
  · intro h
    rw [strB_congr h]
theorem not_bang {b : Bool} (h : ¬ b = true) : (!b) = true := by cases b <;> simp_all
set_option maxRecDepth 100000 in
set_option maxHeartbeats 1600000 in
theorem open_short (A : Option Addr) (n c : Nat) (w : World) (hn : n < 32) :
    Calls Tryz.prog 89 #[.slice A n c] w fun e w' => e = .returned (.tuple #[.slice none 0 0, .int .i64 2]) ∧ Below w.heap.size w w' := by
  have a1 : IntKind.i64.wrap ((n : Int) - 32) = (n : Int) - 32 := by rw [IntKind.wrap_i64]; omega
  have t1 : decide ((n : Int) - 32 < 0) = true := by simp; omega
  have t2 : (n : Int) < 32 := by omega
  go_enter Tryz.func89, Tryz.ntmps89
  go_wp2_with fail
  go_quiet (fail)
  have L1 : Hid (Below w.heap.size w (w.drewN nq)) := Lib.hid (below_drewN (Below.refl _ _) nq)
  go_wp2_with fail
  go_ret2
  exact ⟨rfl, L1.out⟩

set_option maxRecDepth 100000 in
set_option maxHeartbeats 1600000 in
theorem open_yes (A : Option Addr) (n c B : Nat) (X : Nat → Nat) (w : World) (hx : RdB w B A n X) (hX : ∀ j, X j < 256) (hB : B ≤ w.heap.size) (hnc : n ≤ c) (hcm : c ≤ maxLen) (hn : n ≤ 1099511627776) (hl : Laid w) (h32 : 32 ≤ n) (hs : sealed n X) :
    Calls Tryz.prog 89 #[.slice A n c] w fun e w' => (∃ v, e = .returned (.tuple #[v, .int .i64 0]) ∧ Own8 w' w.heap.size v (n - 32) X) ∧ Below w.heap.size w w' := by
  obtain ⟨m, hm⟩ : ∃ m, m = n - 32 := ⟨_, rfl⟩
  have HC := Lib.hid hcm
  have HL : Hid (Laid w.drew) := Lib.hid hl
  have HNEG : Hid (∀ w0 : World, (binOp .lss 3 (.int .i64 ((m : Nat) : Int)) (.int .i64 0)).run Tryz.prog w0 = .ok (.bool false) w0) := fun w0 => by
    have : decide (((m : Nat) : Int) < 0) = false := by simp
    simp [binOp, Op.intCmp, this]
  have HSL1 : Hid (∀ w0, (Instr.sliceAt 51 (.slice A n c) none (some (.int .i64 ((m : Nat) : Int))) none).run Tryz.prog w0 = .ok (.slice (subA A c 0) m c) w0) := fun w0 => slice_to A n c m _ rfl (by omega) w0
  have HSL2 : Hid (∀ w0, (Instr.sliceAt 51 (.slice A n c) (some (.int .i64 ((m : Nat) : Int))) none none).run Tryz.prog w0 = .ok (.slice (subA A c m) 32 (c - m)) w0) := fun w0 => by
    have := slice_from A n c m _ rfl (by omega) w0
    rw [show n - m = 32 by omega] at this
    exact this
  have hr1 := hx.sub (lo := 0) hnc
  rw [Nat.sub_zero] at hr1
  have HR1 : Hid (RdB w.drew B (subA A c 0) m X) := Lib.hid (fun j hj => by
    have := hr1 j (by omega)
    simp only [Nat.zero_add] at this
    exact this)
  have hr2 := hx.sub (lo := m) hnc
  rw [show n - m = 32 by omega] at hr2
  have HS : Hid (RdB w.drew B (subA A c m) 32 (fun j => X (m + j))) := Lib.hid hr2
  have HEQ : Hid ((!((strB 32 (M.sum m X)).toList == (strB 32 (fun j => X (m + j))).toList)) = false) := by
    have h := strB_eq_iff (n := 32) (X := M.sum m X) (Y := fun j => X (m + j)) (fun j _ => M.sum_lt m X j) (fun j _ => hX _)
    unfold sealed at hs
    rw [← hm] at hs
    show _ = _
    rw [h.2 hs]
    rfl
  have hmc : m ≤ c := by omega
  have hm40 : m ≤ 1099511627776 := by omega
  have HXA := Lib.hid hx
  have a1 : IntKind.i64.wrap ((n : Int) - 32) = ((m : Nat) : Int) := by rw [IntKind.wrap_i64]; omega
  have a2 : (n : Int) - 32 = ((m : Nat) : Int) := by omega
  have HMN : Hid (m = n - 32) := Lib.hid hm
  clear hx hl hcm hs hr1 hr2 hm
  go_enter Tryz.func89, Tryz.ntmps89
  go_wp2_with fail
  refine region_anyZ (fun w => RdB w B (subA A c m) 32 (fun j => X (m + j))) 13 (by kernel_rfl) ?_
  refine takeG 0 (.move (.tmp 4)) (some 9) none (.int .i64 ((m : Nat) : Int)) (by kernel_rfl) (by kernel_rfl) (by kernel_rfl) (fun _ _ _ h => h) (fun o w e hS => exec_move w e (by kernel_rfl)) HS.out ?_
  refine takeG 1 (.binOp .lss 3 (.tmp 9) (.const (.int .i64 0)) 3) (some 10) none (.bool false) (by kernel_rfl) (by kernel_rfl) (by kernel_rfl) (fun _ _ _ h => h) (fun o w e hS => exec_bin (u1 := .int .i64 ((m : Nat) : Int)) (u2 := (.int .i64 0)) w e (by kernel_rfl) (by kernel_rfl) (eqG_int ..) (HNEG.out _)) HS.out ?_
  refine takeG 2 (.move (.tmp 10)) (some 11) none (.bool false) (by kernel_rfl) (by kernel_rfl) (by kernel_rfl) (fun _ _ _ h => h) (fun o w e hS => exec_move w e (by kernel_rfl)) HS.out ?_
  refine takeG 3 (.move (.tmp 0)) (some 12) (some (2, false)) (.slice A n c) (by kernel_rfl) (by kernel_rfl) (by kernel_rfl) (fun _ _ _ h => h) (fun o w e hS => exec_move w e (by kernel_rfl)) HS.out ?_
  refine takeG 4 (.move (.tmp 4)) (some 13) (some (2, false)) (.int .i64 ((m : Nat) : Int)) (by kernel_rfl) (by kernel_rfl) (by kernel_rfl) (fun _ _ _ h => h) (fun o w e hS => exec_move w e (by kernel_rfl)) HS.out ?_
  refine takeG 5 (.slice 51 (.tmp 12) .none (.some (.tmp 13)) .none) (some 14) (some (2, false)) (.slice (subA A c 0) m c) (by kernel_rfl) (by kernel_rfl) (by kernel_rfl) (fun _ _ _ h => h) (fun o w e hS => exec_slice (u := .slice A n c) w e (by kernel_rfl) (by kernel_rfl) (by kernel_rfl) (by kernel_rfl) (HSL1.out _)) HS.out ?_
  refine takeG 7 (.move (.tmp 0)) (some 16) (some (2, false)) (.slice A n c) (by kernel_rfl) (by kernel_rfl) (by kernel_rfl) (fun _ _ _ h => h) (fun o w e hS => exec_move w e (by kernel_rfl)) HS.out ?_
  refine takeG 8 (.move (.tmp 4)) (some 17) (some (2, false)) (.int .i64 ((m : Nat) : Int)) (by kernel_rfl) (by kernel_rfl) (by kernel_rfl) (fun _ _ _ h => h) (fun o w e hS => exec_move w e (by kernel_rfl)) HS.out ?_
  refine takeG 9 (.slice 51 (.tmp 16) (.some (.tmp 17)) .none .none) (some 18) (some (2, false)) (.slice (subA A c m) 32 (c - m)) (by kernel_rfl) (by kernel_rfl) (by kernel_rfl) (fun _ _ _ h => h) (fun o w e hS => exec_slice (u := .slice A n c) w e (by kernel_rfl) (by kernel_rfl) (by kernel_rfl) (by kernel_rfl) (HSL2.out _)) HS.out ?_
  refine takeG 10 (.convert 51 9 (.tmp 18)) (some 19) (some (2, false)) (.string (strB 32 (fun j => X (m + j)))) (by kernel_rfl) (by kernel_rfl) (by kernel_rfl) (fun _ _ _ h => h) (fun o w e hS => exec_conv (u := .slice (subA A c m) 32 (c - m)) w e (by kernel_rfl) (conv_rd hS)) HS.out ?_
  refine loneG 6 (.call ⟨.value (.func 86), #[(.tmp 14)], #[51]⟩) (some 15) (some (2, false)) (by kernel_rfl) (by kernel_rfl) (by kernel_rfl) ?_
  intro o ho hod
  refine wp_callC (f := 86) (args := #[.slice (subA A c 0) m c]) (by cases o; cases ho; kernel_rfl) (sum_any (subA A c 0) m c B X _ HR1.out hX hB hmc HC.out hm40 HL.out) ?_
  rintro e w1 ⟨rfl, hl1⟩
  refine ⟨.string (strB 32 (M.sum m X)), rfl, ?_⟩
  rw [hod]
  clear hod ho
  have HT : Hid (RdB w1 B (subA A c m) 32 (fun j => X (m + j))) := Lib.hid (HS.out.below hl1 hB)
  have L1 : Hid (Below w.heap.size w w1) := Lib.hid ((Below.refl w.heap.size w).drew.trans hl1)
  clear hl1 HS
  refine ⟨fun _ => HT.out, ?_⟩
  refine loneG 11 (.binOp .neq 9 (.tmp 15) (.tmp 19) 9) (some 20) (some (2, false)) (by kernel_rfl) (by kernel_rfl) (by kernel_rfl) ?_
  intro o ho hod
  refine wp_val (v := .bool false) (exec_bin (u1 := .string (strB 32 (M.sum m X))) (u2 := .string (strB 32 (fun j => X (m + j)))) _ ho (by kernel_rfl) (by kernel_rfl) (eqG_str ..) (by rw [ne_str, HEQ.out])) ?_
  rw [hod]
  clear hod ho
  refine ⟨fun _ => HT.out, ?_⟩
  refine lastS 12 (.pick (.tmp 11) (.const (Value.bool true)) (.tmp 20)) (some 21) (.bool false) (by kernel_rfl) (by kernel_rfl) (by kernel_rfl) HT.out (fun o e => exec_pick (b := false) _ e (by kernel_rfl) (by kernel_rfl)) ?_
  simp only [put_some, put_none, List.setIfInBounds_toArray, List.set_cons_succ, List.set_cons_zero]
  have hmk := fun W => make_long m (by omega) W ((m : Nat) : Int) rfl
  have B2 : Hid (Blk (w1.alloc (.cells (rowArr m fun _ => 0) 5)) w1.heap.size 5 (rowArr m fun _ => 0)) := Lib.hid (Blk.new _ _ _)
  have L2 : Hid (Below w.heap.size w (w1.alloc (.cells (rowArr m fun _ => 0) 5))) := Lib.hid (L1.out.alloc L1.out.size _)
  have HXW := Lib.hid (HXA.out.below L2.out hB)
  have hz1 := L1.out.size
  go_wp2_with ((with_reducible refine wpList_copyFull rfl (.tmp 24) (.tmp 25) _ _ rfl Tryz.underlying51 w1.heap.size m n c B A rfl rfl (fun _ => 0) X B2.out HXW.out (by omega) ?_); intro w3 hb3 ho3 hs3; refine of_hid ?_)
  refine Lib.hid ?_
  have O3 : Hid (Own8 w3 w.heap.size (.slice (some ⟨w1.heap.size, 0, none⟩) m m) m X) := Lib.hid (Own8.of_blk hb3 hz1 (Nat.le_refl _) (by unfold maxLen; omega))
  have L3 := Lib.hid (L2.out.trans (ho3.below hz1 (by have := L2.out.size; simpa using this)))
  clear hb3 ho3 hs3 B2 L2
  go_wp2_with fail
  go_ret2
  rw [← HMN.out]
  exact ⟨⟨_, rfl, O3.out⟩, L3.out⟩

set_option maxRecDepth 100000 in
set_option maxHeartbeats 1600000 in
theorem open_no (A : Option Addr) (n c B : Nat) (X : Nat → Nat) (w : World) (hx : RdB w B A n X) (hX : ∀ j, X j < 256) (hB : B ≤ w.heap.size) (hnc : n ≤ c) (hcm : c ≤ maxLen) (hn : n ≤ 1099511627776) (hl : Laid w) (h32 : 32 ≤ n) (hs : ¬ sealed n X) :
    Calls Tryz.prog 89 #[.slice A n c] w fun e w' => e = .returned (.tuple #[.slice none 0 0, .int .i64 2]) ∧ Below w.heap.size w w' := by
  obtain ⟨m, hm⟩ : ∃ m, m = n - 32 := ⟨_, rfl⟩
  have HC := Lib.hid hcm
  have HL : Hid (Laid w.drew) := Lib.hid hl
  have HNEG : Hid (∀ w0 : World, (binOp .lss 3 (.int .i64 ((m : Nat) : Int)) (.int .i64 0)).run Tryz.prog w0 = .ok (.bool false) w0) := fun w0 => by
    have : decide (((m : Nat) : Int) < 0) = false := by simp
    simp [binOp, Op.intCmp, this]
  have HSL1 : Hid (∀ w0, (Instr.sliceAt 51 (.slice A n c) none (some (.int .i64 ((m : Nat) : Int))) none).run Tryz.prog w0 = .ok (.slice (subA A c 0) m c) w0) := fun w0 => slice_to A n c m _ rfl (by omega) w0
  have HSL2 : Hid (∀ w0, (Instr.sliceAt 51 (.slice A n c) (some (.int .i64 ((m : Nat) : Int))) none none).run Tryz.prog w0 = .ok (.slice (subA A c m) 32 (c - m)) w0) := fun w0 => by
    have := slice_from A n c m _ rfl (by omega) w0
    rw [show n - m = 32 by omega] at this
    exact this
  have hr1 := hx.sub (lo := 0) hnc
  rw [Nat.sub_zero] at hr1
  have HR1 : Hid (RdB w.drew B (subA A c 0) m X) := Lib.hid (fun j hj => by
    have := hr1 j (by omega)
    simp only [Nat.zero_add] at this
    exact this)
  have hr2 := hx.sub (lo := m) hnc
  rw [show n - m = 32 by omega] at hr2
  have HS : Hid (RdB w.drew B (subA A c m) 32 (fun j => X (m + j))) := Lib.hid hr2
  have HEQ : Hid ((!((strB 32 (M.sum m X)).toList == (strB 32 (fun j => X (m + j))).toList)) = true) := by
    have h := strB_eq_iff (n := 32) (X := M.sum m X) (Y := fun j => X (m + j)) (fun j _ => M.sum_lt m X j) (fun j _ => hX _)
    unfold sealed at hs
    rw [← hm] at hs
    exact Lib.hid (not_bang fun hh => hs (h.1 hh))
  have hmc : m ≤ c := by omega
  have hm40 : m ≤ 1099511627776 := by omega
  have HXA := Lib.hid hx
  have a1 : IntKind.i64.wrap ((n : Int) - 32) = ((m : Nat) : Int) := by rw [IntKind.wrap_i64]; omega
  have a2 : (n : Int) - 32 = ((m : Nat) : Int) := by omega
  have HMN : Hid (m = n - 32) := Lib.hid hm
  clear hx hl hcm hs hr1 hr2 hm
  go_enter Tryz.func89, Tryz.ntmps89
  go_wp2_with fail
  refine region_anyZ (fun w => RdB w B (subA A c m) 32 (fun j => X (m + j))) 13 (by kernel_rfl) ?_
  refine takeG 0 (.move (.tmp 4)) (some 9) none (.int .i64 ((m : Nat) : Int)) (by kernel_rfl) (by kernel_rfl) (by kernel_rfl) (fun _ _ _ h => h) (fun o w e hS => exec_move w e (by kernel_rfl)) HS.out ?_
  refine takeG 1 (.binOp .lss 3 (.tmp 9) (.const (.int .i64 0)) 3) (some 10) none (.bool false) (by kernel_rfl) (by kernel_rfl) (by kernel_rfl) (fun _ _ _ h => h) (fun o w e hS => exec_bin (u1 := .int .i64 ((m : Nat) : Int)) (u2 := (.int .i64 0)) w e (by kernel_rfl) (by kernel_rfl) (eqG_int ..) (HNEG.out _)) HS.out ?_
  refine takeG 2 (.move (.tmp 10)) (some 11) none (.bool false) (by kernel_rfl) (by kernel_rfl) (by kernel_rfl) (fun _ _ _ h => h) (fun o w e hS => exec_move w e (by kernel_rfl)) HS.out ?_
  refine takeG 3 (.move (.tmp 0)) (some 12) (some (2, false)) (.slice A n c) (by kernel_rfl) (by kernel_rfl) (by kernel_rfl) (fun _ _ _ h => h) (fun o w e hS => exec_move w e (by kernel_rfl)) HS.out ?_
  refine takeG 4 (.move (.tmp 4)) (some 13) (some (2, false)) (.int .i64 ((m : Nat) : Int)) (by kernel_rfl) (by kernel_rfl) (by kernel_rfl) (fun _ _ _ h => h) (fun o w e hS => exec_move w e (by kernel_rfl)) HS.out ?_
  refine takeG 5 (.slice 51 (.tmp 12) .none (.some (.tmp 13)) .none) (some 14) (some (2, false)) (.slice (subA A c 0) m c) (by kernel_rfl) (by kernel_rfl) (by kernel_rfl) (fun _ _ _ h => h) (fun o w e hS => exec_slice (u := .slice A n c) w e (by kernel_rfl) (by kernel_rfl) (by kernel_rfl) (by kernel_rfl) (HSL1.out _)) HS.out ?_
  refine takeG 7 (.move (.tmp 0)) (some 16) (some (2, false)) (.slice A n c) (by kernel_rfl) (by kernel_rfl) (by kernel_rfl) (fun _ _ _ h => h) (fun o w e hS => exec_move w e (by kernel_rfl)) HS.out ?_
  refine takeG 8 (.move (.tmp 4)) (some 17) (some (2, false)) (.int .i64 ((m : Nat) : Int)) (by kernel_rfl) (by kernel_rfl) (by kernel_rfl) (fun _ _ _ h => h) (fun o w e hS => exec_move w e (by kernel_rfl)) HS.out ?_
  refine takeG 9 (.slice 51 (.tmp 16) (.some (.tmp 17)) .none .none) (some 18) (some (2, false)) (.slice (subA A c m) 32 (c - m)) (by kernel_rfl) (by kernel_rfl) (by kernel_rfl) (fun _ _ _ h => h) (fun o w e hS => exec_slice (u := .slice A n c) w e (by kernel_rfl) (by kernel_rfl) (by kernel_rfl) (by kernel_rfl) (HSL2.out _)) HS.out ?_
  refine takeG 10 (.convert 51 9 (.tmp 18)) (some 19) (some (2, false)) (.string (strB 32 (fun j => X (m + j)))) (by kernel_rfl) (by kernel_rfl) (by kernel_rfl) (fun _ _ _ h => h) (fun o w e hS => exec_conv (u := .slice (subA A c m) 32 (c - m)) w e (by kernel_rfl) (conv_rd hS)) HS.out ?_
  refine loneG 6 (.call ⟨.value (.func 86), #[(.tmp 14)], #[51]⟩) (some 15) (some (2, false)) (by kernel_rfl) (by kernel_rfl) (by kernel_rfl) ?_
  intro o ho hod
  refine wp_callC (f := 86) (args := #[.slice (subA A c 0) m c]) (by cases o; cases ho; kernel_rfl) (sum_any (subA A c 0) m c B X _ HR1.out hX hB hmc HC.out hm40 HL.out) ?_
  rintro e w1 ⟨rfl, hl1⟩
  refine ⟨.string (strB 32 (M.sum m X)), rfl, ?_⟩
  rw [hod]
  clear hod ho
  have HT : Hid (RdB w1 B (subA A c m) 32 (fun j => X (m + j))) := Lib.hid (HS.out.below hl1 hB)
  have L1 : Hid (Below w.heap.size w w1) := Lib.hid ((Below.refl w.heap.size w).drew.trans hl1)
  clear hl1 HS
  refine ⟨fun _ => HT.out, ?_⟩
  refine loneG 11 (.binOp .neq 9 (.tmp 15) (.tmp 19) 9) (some 20) (some (2, false)) (by kernel_rfl) (by kernel_rfl) (by kernel_rfl) ?_
  intro o ho hod
  refine wp_val (v := .bool true) (exec_bin (u1 := .string (strB 32 (M.sum m X))) (u2 := .string (strB 32 (fun j => X (m + j)))) _ ho (by kernel_rfl) (by kernel_rfl) (eqG_str ..) (by rw [ne_str, HEQ.out])) ?_
  rw [hod]
  clear hod ho
  refine ⟨fun _ => HT.out, ?_⟩
  refine lastS 12 (.pick (.tmp 11) (.const (Value.bool true)) (.tmp 20)) (some 21) (.bool true) (by kernel_rfl) (by kernel_rfl) (by kernel_rfl) HT.out (fun o e => exec_pick (b := false) _ e (by kernel_rfl) (by kernel_rfl)) ?_
  simp only [put_some, put_none, List.setIfInBounds_toArray, List.set_cons_succ, List.set_cons_zero]
  go_wp2_with fail
  go_ret2
  exact ⟨rfl, L1.out⟩
end Go.Proofs.YthioanenljpclaaGreatDoor
