/-
  The walk of 'ShaApart': what is handed in stays as it is, spare room too; answers are memory of their own; the answer is the same each time.
-/
import Derived.Test.YtnkbifphahbnfaaDoorShaKnown
import Derived.Test.YtnkbifphahbnfaaDoorShaTellsWalk
namespace Go.Proofs.YtnkbifphahbnfaaDoor
open Go Go.RowKit
set_option linter.unusedVariables false
namespace shaApart

/-- what 'Open' answers, whatever it is: a row of its own -/
theorem open_gen (A : Option Addr) (n c B : Nat) (X : Nat → Nat) (w : World) (hx : RdB w B A n X) (hX : ∀ j, X j < 256) (hB : B ≤ w.heap.size) (hnc : n ≤ c) (hcm : c ≤ maxLen) (hn : n ≤ 1099511627776) (hl : Laid w) :
    Calls Tryd.prog 16 #[.slice A n c] w fun e w' => (∃ v m E Y, e = .returned (.tuple #[v, .int .i64 E]) ∧ Own8 w' w.heap.size v m Y ∧ m ≤ n) ∧ Below w.heap.size w w' := by
  have hnil : ∀ w', Own8 w' w.heap.size (.slice none 0 0) 0 (fun _ => 0) := fun w' => World.ownsRow_nil w' w.heap.size 5 1
  by_cases h : n < 32
  · exact (open_short A n c w h).mono fun e w' ⟨h1, h2⟩ => ⟨⟨_, 0, 2, fun _ => 0, h1, hnil w', Nat.zero_le _⟩, h2⟩
  by_cases hs : sealed n X
  · exact (open_yes A n c B X w hx hX hB hnc hcm hn hl (by omega) hs).mono fun e w' ⟨⟨v, h1, h2⟩, h3⟩ => ⟨⟨v, n - 32, 0, X, h1, h2, by omega⟩, h3⟩
  · exact (open_no A n c B X w hx hX hB hnc hcm hn hl (by omega) hs).mono fun e w' ⟨h1, h2⟩ => ⟨⟨_, 0, 2, fun _ => 0, h1, hnil w', Nat.zero_le _⟩, h2⟩
def F (Y : Nat → Nat) (n : Nat) : Nat → Nat := put8 (fun _ => 0) Y 0 n
theorem F_in (Y : Nat → Nat) {n j : Nat} (h : j < n) : F Y n j = Y j := by unfold F put8; rw [if_pos ⟨by omega, by omega⟩]; rfl
theorem F_out (Y : Nat → Nat) {n j : Nat} (h : n ≤ j) : F Y n j = 0 := by unfold F put8; rw [if_neg (by omega)]
theorem F_lt {Y : Nat → Nat} (hY : ∀ j, Y j < 256) (n j : Nat) : F Y n j < 256 := by
  by_cases h : j < n
  · rw [F_in Y h]; exact hY j
  · rw [F_out Y (by omega)]; omega
theorem blk_rdb {w : World} {g n c : Nat} {X : Nat → Nat} (h : Blk w g 5 (rowArr c X)) (hn : n ≤ c) (hX : ∀ j, X j < 256) {B : Nat} (hB : g < B) : RdB w B (some ⟨g, 0, none⟩) n X :=
  (RowG.of_blk h hn).rdb (fun j _ => hX j) hB

set_option maxRecDepth 100000 in
set_option maxHeartbeats 3200000 in
theorem walk (A : Option Addr) (n c : Nat) (X : Nat → Nat) (w : World) (hx0 : RdB w w.heap.size A n X) (hnc : n ≤ c) (hcm : c ≤ maxLen) (h0 : A = none → c = 0) (hl : Laid w) :
    Calls Tryd.prog 6 #[.slice A n c] w fun e w' => e = .returned (.bool true) ∧ Below w.heap.size w w' := by
  obtain ⟨Y, hx, hX⟩ := hx0.cut
  have HX := Lib.hid hx
  have HL := Lib.hid hl
  have hpos := hl.pos
  have HC := Lib.hid hcm
  have H0 := Lib.hid h0
  have hcm' := hcm
  unfold maxLen at hcm'
  clear hx0 hx hl hcm h0
  by_cases hbig : 3000 < n
  · have t1 : (3000 : Int) < (n : Int) := by omega
    go_enter Tryd.func6, Tryd.ntmps6
    go_wp2_with fail
    refine (known_any _ HL.out).mono ?_
    rintro e w2 ⟨rfl, hl2⟩
    have L2 := Lib.hid hl2
    clear hl2
    go_wp2_with fail
    refine (known_any _ (HL.out.below L2.out hpos)).mono ?_
    rintro e w3 ⟨rfl, hl3⟩
    have L3 := Lib.hid (L2.out.trans (hl3.mono L2.out.size))
    clear hl3 L2
    go_wp2_with fail
    go_ret
    exact ⟨rfl, L3.out⟩
  have t1 : (n : Int) ≤ 3000 := by omega
  have hn : n ≤ 1099511627776 := by omega
  have hn2 : n ≤ 3000 := by omega
  clear hbig
  have hmk := fun W => make_room (n + 80) (by omega) W ((n : Int) + 80) (by omega)
  go_enter Tryd.func6, Tryd.ntmps6
  go_wp2_with fail
  refine (known_any _ HL.out).mono ?_
  rintro e w2 ⟨rfl, hl2⟩
  have L2 := Lib.hid hl2
  have hz2 := hl2.size
  clear hl2
  have HX2 := Lib.hid (HX.out.below (L2.out.alloc hz2 (.cells (rowArr (n + 80) fun _ => 0) 5)) (Nat.le_refl _))
  go_wp2_with ((with_reducible refine wpList_append_room8 rfl (.tmp 23) (.tmp 24) rfl rfl rfl (Blk.new w2 5 (rowArr (n + 80) fun _ => 0)) HX2.out H0.out hnc (by omega) ?_); intro w3 hb3 ho3 hs3; refine of_hid ?_)
  refine Lib.hid ?_
  have L3 : Hid (Below w.heap.size w w3) := Lib.hid ((L2.out.alloc hz2 _).trans (ho3.below hz2 (by simp; omega)))
  generalize hg0 : w2.heap.size = g0 at *
  have hg : w.heap.size ≤ g0 := by omega
  have B3 : Hid (Blk w3 g0 5 (rowArr (n + 80) (F Y n))) := Lib.hid hb3
  clear hb3 ho3 hs3 L2 HX2 hmk hg0 hz2
  go_wp2_with fail
  refine (sum_any (some ⟨g0, 0, none⟩) n (n + 80) (g0 + 1) (F Y n) w3 (blk_rdb B3.out (by omega) (F_lt hX n) (Nat.lt_succ_self g0)) (F_lt hX n) B3.out.lt (by omega) (by unfold maxLen; omega) hn (HL.out.below L3.out hpos)).mono ?_
  rintro e w4 ⟨rfl, hl4⟩
  have B4 := Lib.hid (B3.out.below hl4 B3.out.lt)
  have L4 := Lib.hid (L3.out.trans (hl4.mono L3.out.size))
  clear hl4 B3 L3
  go_wp2_with fail
  refine (seal_any (some ⟨g0, 0, none⟩) n (n + 80) (g0 + 1) (F Y n) w4 (blk_rdb B4.out (by omega) (F_lt hX n) (Nat.lt_succ_self g0)) (F_lt hX n) B4.out.lt (by omega) (by unfold maxLen; omega) (fun e => by cases e) hn (HL.out.below L4.out hpos)).mono ?_
  rintro e w5 ⟨v5, rfl, ho5, hl5⟩
  obtain ⟨g5, c5, rfl, hg5, hr5, hc5, hcm5⟩ := ho5.row (by omega)
  have hg05 : g0 < g5 := Nat.lt_of_lt_of_le B4.out.lt hg5
  have B5 := Lib.hid (B4.out.below hl5 B4.out.lt)
  have L5 := Lib.hid (L4.out.trans (hl5.mono L4.out.size))
  have R5 : Hid (∃ X5, RowG w5 g5 (n + 32) X5) := Lib.hid ⟨_, hr5⟩
  clear hl5 ho5 hr5 B4 L4 hg5
  go_wp2_with fail
  refine (open_gen (some ⟨g0, 0, none⟩) n (n + 80) (g0 + 1) (F Y n) w5 (blk_rdb B5.out (by omega) (F_lt hX n) (Nat.lt_succ_self g0)) (F_lt hX n) B5.out.lt (by omega) (by unfold maxLen; omega) hn (HL.out.below L5.out hpos)).mono ?_
  rintro e w6 ⟨⟨v6, m, E, Y6, rfl, ho6, hmn⟩, hl6⟩
  have B6 := Lib.hid (B5.out.below hl6 B5.out.lt)
  have L6 := Lib.hid (L5.out.trans (hl6.mono L5.out.size))
  have hg5s : g5 < w5.heap.size := by obtain ⟨X5, h⟩ := R5.out; exact h.lt
  have R6 : Hid (∃ X5, RowG w6 g5 (n + 32) X5) := by obtain ⟨X5, h⟩ := R5.out; exact Lib.hid ⟨X5, h.new_ hl6⟩
  obtain ⟨A6, c6, rfl, hA6⟩ : ∃ A6 c6, v6 = .slice A6 m c6 ∧ ∃ g6, g5 < g6 ∧ (0 < m → A6 = some ⟨g6, 0, none⟩ ∧ ∃ X6, RowG w6 g6 m X6) := by
    by_cases hm : 0 < m
    · obtain ⟨g6, c6, rfl, hg6, hr6, _, _⟩ := ho6.row hm
      exact ⟨_, c6, rfl, g6, by omega, fun _ => ⟨rfl, Y6, hr6⟩⟩
    · have hm0 : m = 0 := by omega
      subst hm0
      rcases ho6.2 with ⟨rfl, _⟩ | ⟨g', cap', cur, rfl, _⟩
      · exact ⟨none, 0, rfl, g5 + 1, by omega, fun h => absurd h (by omega)⟩
      · exact ⟨_, _, rfl, g5 + 1, by omega, fun h => absurd h (by omega)⟩
  obtain ⟨g6, hg56, hA6⟩ := hA6
  have HA6 : Hid (0 < m → A6 = some ⟨g6, 0, none⟩) := Lib.hid fun h => (hA6 h).1
  have Q6 : Hid (∃ X6, 0 < m → RowG w6 g6 m X6) := by
    by_cases hm : 0 < m
    · obtain ⟨X6, h⟩ := (hA6 hm).2
      exact Lib.hid ⟨X6, fun _ => h⟩
    · exact Lib.hid ⟨fun _ => 0, fun h => absurd h hm⟩
  have hgs : w.heap.size ≤ g6 := by omega
  have hgs5 : w.heap.size ≤ g5 := by omega
  clear hl6 ho6 hA6 B5 L5 R5 hg5s
  unfold maxLen at hcm5
  go_wp2_with fail
  go_loopw [8] (fun x wr => ∃ k : Nat, k ≤ n + 32 ∧ x = .int .i64 k ∧ Hid (∃ X5, RowG wr g5 (n + 32) X5) ∧ Hid (∃ X6, 0 < m → RowG wr g6 m X6) ∧ Hid (Blk wr g0 5 (rowArr (n + 80) (F Y n))) ∧ Hid (Below w.heap.size w wr)) (fun x _ => n + 32 - (intOf x).toNat)
  case atStart => exact ⟨0, by omega, rfl, R6, Q6, B6, L6⟩
  case round =>
    obtain ⟨k, hk, rfl, R7, Q7, B7, L7⟩ := hrel
    clear R6 Q6 B6 L6
    by_cases hlt : k < n + 32
    · have i1 : (0 : Int) ≤ (k : Int) := by omega
      have i2 : (k : Int) < (n : Int) + 32 := by omega
      obtain ⟨X5, hr⟩ := R7.out
      have c1 := hr.cell hlt
      have f1 := hr.frozen k
      have HR := Lib.hid hr
      clear hr R7
      have hxr : ∃ y, bits .xor .u8 ((X5 k : Nat) : Int) 255 = ((y : Nat) : Int) := ⟨(IntKind.u8.wrap ((BitVec.ofInt 8 ((X5 k : Nat) : Int) ^^^ BitVec.ofInt 8 255).toNat : Int)).toNat, by
        show IntKind.u8.wrap _ = _
        rw [IntKind.wrap_u8]
        exact (Int.toNat_of_nonneg (Int.emod_nonneg _ (by omega))).symm⟩
      obtain ⟨y, hy⟩ := hxr
      go_wp2_with fail
      have R8 : Hid (∃ X5, RowG (wr.setCell ⟨g5, k, none⟩ (.int .u8 ((y : Nat) : Int))) g5 (n + 32) X5) := Lib.hid ⟨_, HR.out.set hlt⟩
      have Q8 : Hid (∃ X6, 0 < m → RowG (wr.setCell ⟨g5, k, none⟩ (.int .u8 ((y : Nat) : Int))) g6 m X6) := by
        obtain ⟨X6, h⟩ := Q7.out
        exact Lib.hid ⟨X6, fun hm => (h hm).far (by simp; omega) _⟩
      have B8 := Lib.hid (B7.out.far (p := ⟨g5, k, none⟩) (by simp; omega) (.int .u8 ((y : Nat) : Int)))
      have L8 := Lib.hid (L7.out.setCell (p := ⟨g5, k, none⟩) hgs5 (.int .u8 ((y : Nat) : Int)))
      clear Q7 B7 L7 HR c1 f1 hy
      go_roundw
      case rel => exact ⟨k + 1, by omega, by go_num, R8, Q8, B8, L8⟩
      case measure => simp [intOf]; omega
    · clear R7
      have hk32 : k = n + 32 := by omega
      rw [show ((k : Nat) : Int) = (n : Int) + 32 by omega]
      subst hk32
      clear hlt hk
      go_wp2_with fail
      go_loopw [9] (fun x wr => ∃ k : Nat, k ≤ m ∧ x = .int .i64 k ∧ Hid (∃ X6, 0 < m → RowG wr g6 m X6) ∧ Hid (Blk wr g0 5 (rowArr (n + 80) (F Y n))) ∧ Hid (Below w.heap.size w wr)) (fun x _ => m - (intOf x).toNat)
      case atStart => exact ⟨0, by omega, rfl, Q7, B7, L7⟩
      case round =>
        obtain ⟨k, hk, rfl, Q8, B8, L8⟩ := hrel
        clear Q7 B7 L7
        by_cases hlt : k < m
        · have i1 : (0 : Int) ≤ (k : Int) := by omega
          have i2 : (k : Int) < (m : Int) := by omega
          have e6 := HA6.out (by omega)
          subst e6
          obtain ⟨X6, hr⟩ := Q8.out
          have hr := hr (by omega)
          have c1 := hr.cell hlt
          have f1 := hr.frozen k
          have HR := Lib.hid hr
          clear hr Q8 HA6
          go_wp2_with fail
          have Q9 : Hid (∃ X6, 0 < m → RowG (wr.setCell ⟨g6, k, none⟩ (.int .u8 0)) g6 m X6) := Lib.hid ⟨_, fun _ => HR.out.set (v := 0) hlt⟩
          have B9 := Lib.hid (B8.out.far (p := ⟨g6, k, none⟩) (by simp; omega) (.int .u8 0))
          have L9 := Lib.hid (L8.out.setCell (p := ⟨g6, k, none⟩) hgs (.int .u8 0))
          clear B8 L8 HR c1 f1
          go_roundw
          case rel => exact ⟨k + 1, by omega, by go_num, Q9, B9, L9⟩
          case measure => simp [intOf]; omega
        · clear Q8 HA6
          have hkm : k = m := by omega
          subst hkm
          clear hlt hk
          go_wp2_with fail
          go_loopw [11] (fun x wr => ∃ k : Nat, n ≤ k ∧ k ≤ n + 80 ∧ x = .int .i64 k ∧ Hid (Blk wr g0 5 (rowArr (n + 80) (F Y n))) ∧ Hid (Below w.heap.size w wr)) (fun x _ => n + 80 - (intOf x).toNat)
          case atStart => exact ⟨n, by omega, by omega, rfl, B8, L8⟩
          case round =>
            obtain ⟨k, hkn, hk, rfl, B9, L9⟩ := hrel
            clear B8 L8
            by_cases hlt : k < n + 80
            · have i1 : (0 : Int) ≤ (k : Int) := by omega
              have i2 : (k : Int) < (n : Int) + 80 := by omega
              have c1 : wr.cell? ⟨g0, k, none⟩ = some (.int .u8 0) := by
                rw [B9.out.cell, rowArr_get hlt, F_out Y hkn]; rfl
              go_wp2_with fail
              clear c1
              go_roundw
              case rel => exact ⟨k + 1, by omega, by omega, by go_num, B9, L9⟩
              case measure => simp [intOf]; omega
            · have hk80 : k = n + 80 := by omega
              rw [show ((k : Nat) : Int) = (n : Int) + 80 by omega]
              subst hk80
              clear hlt hk hkn
              have k1 := conv_rd (cap := n + 80) (blk_rdb B9.out (by omega) (F_lt hX n) (Nat.lt_succ_self g0) : RdB wr (g0 + 1) (some ⟨g0, 0, none⟩) n (F Y n))
              rw [strB_congr (fun j hj => F_in Y hj)] at k1
              have k2 := conv_rd (cap := c) (HX.out.below L9.out (Nat.le_refl _))
              go_wp2_with fail
              refine (sum_any (some ⟨g0, 0, none⟩) n (n + 80) (g0 + 1) (F Y n) wr (blk_rdb B9.out (by omega) (F_lt hX n) (Nat.lt_succ_self g0)) (F_lt hX n) B9.out.lt (by omega) (by unfold maxLen; omega) hn (HL.out.below L9.out hpos)).mono ?_
              rintro e w10 ⟨rfl, hl10⟩
              have L10 := Lib.hid (L9.out.trans (hl10.mono L9.out.size))
              have s32 : (strB 32 (M.sum n (F Y n))).size = 32 := strB_size _ _
              clear hl10 L9 k1 k2
              go_wp2_with fail
              go_ret
              exact ⟨rfl, L10.out⟩
end shaApart
end Go.Proofs.YtnkbifphahbnfaaDoor
