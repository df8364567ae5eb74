/-
  The walk of 'PackApart': what is handed in stays as it is, spare room too; answers are memory of their own. Conditions: the items take less than 2^47 bytes.
-/
import Derived.Test.YtllglgkphlkopaaDoorPackRoomI
import Derived.Test.YtllglgkphlkopaaDoorPackKnown
namespace Go.Proofs.YtllglgkphlkopaaDoor
open Go Go.RowKit
set_option maxRecDepth 100000
set_option linter.unusedVariables false
namespace packApart
def putF (n : Nat) (x : Nat → Nat) : Nat → Nat := put8 (fun _ => 0) x 0 n
theorem putF_in (x : Nat → Nat) {n j : Nat} (h : j < n) : putF n x j = x j := by unfold putF put8; rw [if_pos ⟨by omega, by omega⟩]; rfl
theorem putF_out (x : Nat → Nat) {n j : Nat} (h : n ≤ j) : putF n x j = 0 := by unfold putF put8; rw [if_neg (by omega)]
/-- items in a block of the law's own, whatever they are -/
def IRow (w : World) (g n : Nat) : Prop := ∃ cs, w.heap[g]? = some (.cells cs 31 (0, 0)) ∧ n * 3 ≤ cs.size
theorem IRow.lt {w : World} {g n : Nat} (h : IRow w g n) : g < w.heap.size := by obtain ⟨cs, h, _⟩ := h; exact (Array.getElem?_eq_some_iff.1 h).1
theorem IRow.cell {w : World} {g n i : Nat} (h : IRow w g n) (hi : i < n * 3) : ∃ u, w.cell? ⟨g, i, none⟩ = some u := by
  obtain ⟨cs, h1, h2⟩ := h
  exact ⟨cs[i], by rw [cell_of_row _ _ _ _ _ _ h1]; exact Array.getElem?_eq_getElem (by omega)⟩
theorem IRow.frozen {w : World} {g n : Nat} (h : IRow w g n) (i : Nat) : w.frozen? ⟨g, i, none⟩ = false := by
  obtain ⟨cs, h1, _⟩ := h
  exact Blk.frozen (show Blk w g 31 cs from h1) i
theorem IRow.keep {w w' : World} {g n : Nat} (h : IRow w g n) (e : w'.heap[g]? = w.heap[g]?) : IRow w' g n := by
  obtain ⟨cs, h1, h2⟩ := h
  exact ⟨cs, e.trans h1, h2⟩
theorem IRow.below {w w' : World} {g n B : Nat} (h : IRow w g n) (hb : Below B w w') (hg : g < B) : IRow w' g n := h.keep (hb.block g hg)
theorem IRow.far {w : World} {g n : Nat} (h : IRow w g n) {p : Addr} (hp : g ≠ p.block) (u : Value) : IRow (w.setCell p u) g n := h.keep (Below.heap_setCell w p u g hp)
theorem IRow.set {w : World} {g n : Nat} (h : IRow w g n) (i : Nat) (u : Value) : IRow (w.setCell ⟨g, i, none⟩ u) g n := by
  obtain ⟨cs, h1, h2⟩ := h
  exact ⟨_, Blk.set_ (show Blk w g 31 cs from h1) i u, by simpa using h2⟩
theorem irow_of_own {w : World} {base : Nat} {v : Value} {l : List K.It} (h : OwnI w base v l) : ∃ A c g, v = .slice A l.length c ∧ base ≤ g ∧ (0 < l.length → A = some ⟨g, 0, none⟩) ∧ (0 < l.length → IRow w g l.length) ∧ l.length ≤ 9223372036854775807 := by
  rcases h.2 with ⟨h1, h2⟩ | ⟨g, cap, cur, h1, h2, h3, h4, h5, h6, h7⟩
  · exact ⟨none, 0, base, by rw [h1, h2], Nat.le_refl _, fun q => absurd q (by omega), fun q => absurd q (by omega), by omega⟩
  · exact ⟨_, cap, g, h1, h2, fun _ => rfl, fun _ => ⟨cur, h3, by rw [h6]; exact Nat.mul_le_mul_right 3 h4⟩, by unfold maxLen at h5; omega⟩
theorem xrow_of_own {w : World} {base n : Nat} {v : Value} {X : Nat → Nat} (h : Own8 w base v n X) : ∃ A c g, v = .slice A n c ∧ base ≤ g ∧ (0 < n → A = some ⟨g, 0, none⟩) ∧ (∃ X, 0 < n → RowG w g n X) ∧ n ≤ 9223372036854775807 := by
  by_cases hn : 0 < n
  · obtain ⟨g, c, rfl, h1, h2, h3, h4⟩ := h.row hn
    exact ⟨_, c, g, rfl, h1, fun _ => rfl, ⟨X, fun _ => h2⟩, by unfold maxLen at h4; omega⟩
  · obtain rfl : n = 0 := by omega
    rcases h with ⟨rfl, _⟩ | ⟨g', cap', cur, fr', rfl, hg, _⟩
    · exact ⟨none, 0, base, rfl, Nat.le_refl _, fun h => absurd h (by omega), ⟨X, fun h => absurd h (by omega)⟩, by omega⟩
    · exact ⟨_, _, g', rfl, hg, fun h => absurd h (by omega), ⟨X, fun h => absurd h (by omega)⟩, by omega⟩
theorem make_itemsW (N : Nat) (hN : N * 32 ≤ 281474976710656) (l : Int) (hl : l = (N : Int)) :
    ∃ cs : Array Value, cs.size = N * 3 ∧ ∀ w : World, (Instr.makeSlice 23 (.int .i64 0) (.int .i64 l)).run Tryd.prog w = .ok (.slice (some ⟨w.heap.size, 0, none⟩) 0 N) (w.alloc (.cells cs 31)) := by
  subst hl
  obtain ⟨i0, hi, hz0, hz1, hz2⟩ := info_parts3 info_item
  refine ⟨_, ?_, fun w => run_make (P := Tryd.prog) (w := w) 23 31 i0 _ Tryd.underlying23 hi hz0 .i64 .i64 (0 : Int) (N : Int) (by omega) (by omega) (by rw [hz2]; omega) (by omega)⟩
  rw [hz1, Int.toNat_natCast, size_madeCells]
theorem inR {w : World} {g c B : Nat} {L : List Nat} (h : Blk w g 5 (rowArr c (putF L.length (lst L)))) (hc : L.length ≤ c) (hL : ∀ x ∈ L, x < 256) (hB : g < B) : RdB w B (some ⟨g, 0, none⟩) L.length (lst L) :=
  ((RowG.of_blk h hc).congr fun j hj => putF_in _ hj).rdb (fun j _ => lst_lt hL j) hB

set_option maxHeartbeats 6400000 in
theorem walk (A1 : Option Addr) (L : List Nat) (c1 : Nat) (A2 : Option Addr) (l : List K.It) (c2 : Nat) (w : World)
    (h1 : RdB w w.heap.size A1 L.length (lst L)) (hL : ∀ x ∈ L, x < 256) (lc1 : L.length ≤ c1) (cm1 : c1 ≤ maxLen) (n1 : A1 = none → c1 = 0)
    (h2 : RdI w w.heap.size A2 l) (g2 : ∀ x ∈ l, Good x) (lc2 : l.length ≤ c2) (cm2 : c2 ≤ maxLen) (n2 : A2 = none → c2 = 0) (r2 : c2 * 32 ≤ 140737488351232) (hl : Laid w) :
    Calls Tryd.prog 3 #[.slice A1 L.length c1, .slice A2 l.length c2] w fun e w' => e = .returned (.bool true) ∧ Below w.heap.size w w' := by
  have HLD := Lib.hid hl
  have hpos := hl.pos
  have H1 := Lib.hid h1
  have H2 := Lib.hid h2
  have HL := Lib.hid hL
  have G2 := Lib.hid g2
  have C1 := Lib.hid cm1
  have C2 := Lib.hid cm2
  have N1 := Lib.hid n1
  have N2 := Lib.hid n2
  unfold maxLen at cm1 cm2
  clear h1 h2 hL g2 n1 n2 hl
  by_cases hbig : 1000 < L.length
  · have t1 : (1000 : Int) < (L.length : Int) := by omega
    go_enter Tryd.func3, Tryd.ntmps3
    go_wp2_with fail
    refine (known_any _).mono ?_
    rintro e wk ⟨rfl, hlk⟩
    have LK := Lib.hid hlk
    clear hlk
    go_wp2_with fail
    refine (known_any _).mono ?_
    rintro e w2 ⟨rfl, hl2⟩
    have L2 := Lib.hid (LK.out.trans (hl2.mono LK.out.size))
    clear hl2
    go_wp2_with fail
    go_ret
    exact ⟨rfl, L2.out⟩
  have t1 : (L.length : Int) ≤ 1000 := by omega
  have hL1000 : L.length ≤ 1000 := by omega
  clear hbig
  have hmk := fun W => make_room (L.length + 9) (by omega) W ((L.length : Int) + 9) (by omega)
  obtain ⟨CS, hcs, hmi⟩ := make_itemsW (l.length + 2) (by omega) ((l.length : Int) + 2) (by omega)
  go_enter Tryd.func3, Tryd.ntmps3
  go_wp2_with fail
  refine (known_any _).mono ?_
  rintro e wk ⟨rfl, hlk⟩
  have LK := Lib.hid hlk
  have sk := LK.out.size
  clear hlk
  have HX2 := Lib.hid (H1.out.below (LK.out.alloc sk (.cells (rowArr (L.length + 9) fun _ => 0) 5)) (Nat.le_refl _))
  go_wp2_with ((with_reducible refine wpList_append_room8 rfl (.tmp 30) (.tmp 31) rfl rfl rfl (Blk.new wk 5 (rowArr (L.length + 9) fun _ => 0)) HX2.out N1.out lc1 (by omega) ?_); intro w3 hb3 ho3 hs3; refine of_hid ?_)
  refine Lib.hid ?_
  have L3 : Hid (Below w.heap.size w w3) := Lib.hid ((LK.out.alloc sk _).trans (ho3.below sk (by simp; omega)))
  generalize hg0 : wk.heap.size = g0 at *
  have hg : w.heap.size ≤ g0 := by omega
  have B3 : Hid (Blk w3 g0 5 (rowArr (L.length + 9) (putF L.length (lst L)))) := Lib.hid hb3
  have s3 := L3.out.size
  clear hb3 ho3 hs3 LK HX2 hmk hg0 sk
  have HX3 := Lib.hid (H2.out.below (L3.out.alloc s3 (.cells CS 31)) (Nat.le_refl _))
  have z3 : (w3.alloc (.cells CS 31)).heap.size = w3.heap.size + 1 := by simp
  go_wp2_with ((with_reducible refine wpList_append_items rfl (.tmp 36) (.tmp 37) rfl rfl rfl (Blk.new w3 31 CS) hcs HX3.out N2.out lc2 (by omega) ?_); intro w5 hb5 ho5 hs5; refine of_hid ?_)
  refine Lib.hid ?_
  have M5 : Hid (Below w3.heap.size w3 w5) := Lib.hid (((Below.refl _ _).alloc (Nat.le_refl _) _).trans (ho5.below (Nat.le_refl _) (by omega)))
  have L5 : Hid (Below w.heap.size w w5) := Lib.hid (L3.out.trans (M5.out.mono s3))
  have B5 := Lib.hid (B3.out.below M5.out B3.out.lt)
  have hgt := B3.out.lt
  have sz5 : w3.heap.size + 1 ≤ w5.heap.size := by omega
  have R5 := Lib.hid hb5
  generalize w3.heap.size = gt at *
  clear hb5 ho5 hs5 z3 M5 B3 L3 HX3 hmi hcs
  have s5 := L5.out.size
  go_wp2_with fail
  refine (encode_own (some ⟨gt, 0, none⟩) l (l.length + 2) (gt + 1) w5 R5.out sz5 G2.out (by omega) (by unfold maxLen; omega)).mono ?_
  rintro e w6 ⟨⟨v6, rfl, ho6⟩, hl6⟩
  have M6 : Hid (Below (gt + 1) w5 w6) := Lib.hid (hl6.mono sz5)
  have L6 := Lib.hid (L5.out.trans (hl6.mono s5))
  obtain ⟨A6, c6, g6, rfl, hg6, hA6, hX6, hn6m⟩ := xrow_of_own ho6
  have HA6 := Lib.hid hA6
  have Q6 := Lib.hid hX6
  have hgw6 : w5.heap.size ≤ w6.heap.size := hl6.size
  have hg6b : 0 < (outX l).length → g6 < w6.heap.size := fun h => by obtain ⟨X, hX⟩ := hX6; exact (hX h).lt
  have G6 := Lib.hid hg6b
  obtain ⟨n6, hn6⟩ : ∃ n6, n6 = (outX l).length := ⟨_, rfl⟩
  rw [← hn6] at HA6 Q6 G6 hn6m ⊢
  clear ho6 hl6 hA6 hX6 hg6b hn6
  go_wp2_with fail
  refine (decode_any (some ⟨g0, 0, none⟩) L (L.length + 9) (g0 + 1) w6 (inR (B5.out.below M6.out (by omega)) (by omega) HL.out (Nat.lt_succ_self _)) (by omega) HL.out (by omega) (by unfold maxLen; omega)).mono ?_
  rintro e w7 ⟨hd7, hl7⟩
  have M7 : Hid (Below (gt + 1) w5 w7) := Lib.hid (M6.out.trans (hl7.mono (by omega)))
  have L7 := Lib.hid (L6.out.trans (hl7.mono L6.out.size))
  obtain ⟨v7, rfl, ho7⟩ := hd7.own
  obtain ⟨A7, c7, g7, rfl, hg7, hA7, hI7, hn7m⟩ := irow_of_own ho7
  have HA7 := Lib.hid hA7
  have I7 := Lib.hid hI7
  have Q7 : Hid (∃ X, 0 < n6 → RowG w7 g6 n6 X) := by
    obtain ⟨X, hX⟩ := Q6.out
    exact Lib.hid ⟨X, fun h => (hX h).new_ hl7⟩
  have hgw7 : w6.heap.size ≤ w7.heap.size := hl7.size
  have hg67 : 0 < n6 → g6 < g7 := fun h => Nat.lt_of_lt_of_le (G6.out h) hg7
  have G67 := Lib.hid hg67
  have hg7b : 0 < (outL L).length → g7 < w7.heap.size := fun h => (hI7 h).lt
  have G7 := Lib.hid hg7b
  have hgw67 : gt + 1 ≤ w7.heap.size := by omega
  have g6gt : gt + 1 ≤ g6 := by omega
  have g7gt : gt + 1 ≤ g7 := by omega
  obtain ⟨n7, hn7⟩ : ∃ n7, n7 = (outL L).length := ⟨_, rfl⟩
  rw [← hn7] at HA7 I7 G7 hn7m ⊢
  clear ho7 hl7 hA7 hI7 hg7b hn7 hg67 Q6 L6 M6 hd7 hg6 hg7 G6
  go_wp2_with fail
  refine (sector_any (some ⟨gt, 0, none⟩) l (l.length + 2) (gt + 1) w7 (R5.out.below M7.out (Nat.le_refl _)) hgw67 G2.out (by omega) (by unfold maxLen; omega) (HLD.out.below L7.out hpos)).mono ?_
  rintro e w8 ⟨⟨v8, rfl, ho8⟩, hl8⟩
  have M8 : Hid (Below (gt + 1) w5 w8) := Lib.hid (M7.out.trans (hl8.mono hgw67))
  have L8 := Lib.hid (L7.out.trans (hl8.mono L7.out.size))
  have Q8 : Hid (∃ X, 0 < n6 → RowG w8 g6 n6 X) := by
    obtain ⟨X, hX⟩ := Q7.out
    exact Lib.hid ⟨X, fun h => (hX h).new_ hl8⟩
  have I8 : Hid (0 < n7 → IRow w8 g7 n7) := Lib.hid fun h => (I7.out h).below hl8 (G7.out h)
  have hgw8 : w7.heap.size ≤ w8.heap.size := hl8.size
  clear ho8 hl8 M7 L7 Q7 I7
  go_wp2_with fail
  refine (unsector_any (some ⟨g0, 0, none⟩) L (L.length + 9) (g0 + 1) w8 (inR (B5.out.below M8.out (by omega)) (by omega) HL.out (Nat.lt_succ_self _)) (by omega) HL.out (by omega) (by unfold maxLen; omega) (HLD.out.below L8.out hpos)).mono ?_
  rintro e w9 ⟨hu9, hl9⟩
  obtain ⟨A9, c9, rfl, _, _, _⟩ := hu9
  have M9 : Hid (Below (gt + 1) w5 w9) := Lib.hid (M8.out.trans (hl9.mono (by omega)))
  have L9 := Lib.hid (L8.out.trans (hl9.mono L8.out.size))
  have Q9 : Hid (∃ X, 0 < n6 → RowG w9 g6 n6 X) := by
    obtain ⟨X, hX⟩ := Q8.out
    exact Lib.hid ⟨X, fun h => (hX h).new_ hl9⟩
  have I9 : Hid (0 < n7 → IRow w9 g7 n7) := Lib.hid fun h => (I8.out h).below hl9 (Nat.lt_of_lt_of_le (G7.out h) hgw8)
  clear hl9 M8 L8 Q8 I8 G7 hgw8 hgw7 hgw6 hgw67
  have hw6 : w.heap.size ≤ g6 := by omega
  have hw7 : w.heap.size ≤ g7 := by omega
  go_wp2_with fail
  go_loopw [11] (fun x wr => ∃ k : Nat, k ≤ n6 ∧ x = .int .i64 k ∧ Hid (∃ X, 0 < n6 → RowG wr g6 n6 X) ∧ Hid (0 < n7 → IRow wr g7 n7) ∧ Hid (Below (gt + 1) w5 wr) ∧ Hid (Below w.heap.size w wr)) (fun x _ => n6 - (intOf x).toNat)
  case atStart => exact ⟨0, by omega, rfl, Q9, I9, M9, L9⟩
  case round =>
    obtain ⟨k, hk, rfl, Q10, I10, M10, L10⟩ := hrel
    clear Q9 I9 M9 L9
    by_cases hlt : k < n6
    · have i1 : (0 : Int) ≤ (k : Int) := by omega
      have i2 : (k : Int) < (n6 : Int) := by omega
      have e6 := HA6.out (by omega)
      subst e6
      have hne := G67.out (by omega)
      obtain ⟨X6, hr⟩ := Q10.out
      have hr := hr (by omega)
      have c1' := hr.cell hlt
      have f1' := hr.frozen hlt
      have HR := Lib.hid hr
      clear hr Q10 HA6
      go_wp2_with fail
      have Q11 : Hid (∃ X6, 0 < n6 → RowG (wr.setCell ⟨g6, k, none⟩ (.int .u8 170)) g6 n6 X6) := Lib.hid ⟨_, fun _ => HR.out.set (v := 170) hlt⟩
      have I11 : Hid (0 < n7 → IRow (wr.setCell ⟨g6, k, none⟩ (.int .u8 170)) g7 n7) := Lib.hid fun h => (I10.out h).far (p := ⟨g6, k, none⟩) (by simp; omega) _
      have M11 := Lib.hid (M10.out.setCell (p := ⟨g6, k, none⟩) g6gt (.int .u8 170))
      have L11 := Lib.hid (L10.out.setCell (p := ⟨g6, k, none⟩) hw6 (.int .u8 170))
      clear I10 M10 L10 HR c1' f1'
      go_roundw
      case rel => exact ⟨k + 1, by omega, by go_num, Q11, I11, M11, L11⟩
      case measure => simp [intOf]; omega
    · clear Q10 HA6 G67
      have hkm : k = n6 := by omega
      subst hkm
      clear hlt hk
      go_wp2_with fail
      go_loopw [12] (fun x wr => ∃ k : Nat, k ≤ n7 ∧ x = .int .i64 k ∧ Hid (0 < n7 → IRow wr g7 n7) ∧ Hid (Below (gt + 1) w5 wr) ∧ Hid (Below w.heap.size w wr)) (fun x _ => n7 - (intOf x).toNat)
      case atStart => exact ⟨0, by omega, rfl, I10, M10, L10⟩
      case round =>
        obtain ⟨k, hk, rfl, I11, M11, L11⟩ := hrel
        clear I10 M10 L10
        by_cases hlt : k < n7
        · have i1 : (0 : Int) ≤ (k : Int) := by omega
          have i2 : (k : Int) < (n7 : Int) := by omega
          have e7 := HA7.out (by omega)
          subst e7
          have hr := I11.out (by omega)
          obtain ⟨u0, d0⟩ := hr.cell (i := k * 3) (by omega)
          obtain ⟨u1, d1⟩ := hr.cell (i := k * 3 + 1) (by omega)
          obtain ⟨u2, d2⟩ := hr.cell (i := k * 3 + 2) (by omega)
          have f0 := hr.frozen (k * 3)
          have f1 := hr.frozen (k * 3 + 1)
          have f2 := hr.frozen (k * 3 + 2)
          have HR := Lib.hid hr
          clear hr I11 HA7
          go_wp2_with fail
          have I12 : Hid (0 < n7 → IRow (((wr.setCell ⟨g7, k * 3, none⟩ (.int .i64 9)).setCell ⟨g7, k * 3 + 1, none⟩ (.int .i64 0)).setCell ⟨g7, k * 3 + 2, none⟩ (.string ⟨#[]⟩)) g7 n7) := Lib.hid fun _ => ((HR.out.set _ _).set _ _).set _ _
          have M12 := Lib.hid (((M11.out.setCell (p := ⟨g7, k * 3, none⟩) g7gt (.int .i64 9)).setCell (p := ⟨g7, k * 3 + 1, none⟩) g7gt (.int .i64 0)).setCell (p := ⟨g7, k * 3 + 2, none⟩) g7gt (.string ⟨#[]⟩))
          have L12 := Lib.hid (((L11.out.setCell (p := ⟨g7, k * 3, none⟩) hw7 (.int .i64 9)).setCell (p := ⟨g7, k * 3 + 1, none⟩) hw7 (.int .i64 0)).setCell (p := ⟨g7, k * 3 + 2, none⟩) hw7 (.string ⟨#[]⟩))
          clear M11 L11 HR d0 d1 d2 f0 f1 f2
          go_roundw
          case rel => exact ⟨k + 1, by omega, by go_num, I12, M12, L12⟩
          case measure => simp [intOf]; omega
        · clear I11 HA7
          have hkm : k = n7 := by omega
          subst hkm
          clear hlt hk
          go_wp2_with fail
          go_loopw [14] (fun x wr => ∃ k : Nat, L.length ≤ k ∧ k ≤ L.length + 9 ∧ x = .int .i64 k ∧ Hid (Below (gt + 1) w5 wr) ∧ Hid (Below w.heap.size w wr)) (fun x _ => L.length + 9 - (intOf x).toNat)
          case atStart => exact ⟨L.length, by omega, by omega, rfl, M11, L11⟩
          case round =>
            obtain ⟨k, hkn, hk, rfl, M12, L12⟩ := hrel
            clear M11 L11
            have B12 := Lib.hid (B5.out.below M12.out (by omega))
            by_cases hlt : k < L.length + 9
            · have i1 : (0 : Int) ≤ (k : Int) := by omega
              have i2 : (k : Int) < (L.length : Int) + 9 := by omega
              have c1' : wr.cell? ⟨g0, k, none⟩ = some (.int .u8 0) := by
                rw [B12.out.cell, rowArr_get hlt, putF_out _ hkn]; rfl
              go_wp2_with fail
              clear c1'
              go_roundw
              case rel => exact ⟨k + 1, by omega, by omega, by go_num, M12, L12⟩
              case measure => simp [intOf]; omega
            · have hk9 : k = L.length + 9 := by omega
              rw [show ((k : Nat) : Int) = (L.length : Int) + 9 by omega]
              subst hk9
              clear hlt hk hkn
              go_wp2_with fail
              refine (decode_any (some ⟨g0, 0, none⟩) L (L.length + 9) (g0 + 1) wr (inR B12.out (by omega) HL.out (Nat.lt_succ_self _)) B12.out.lt HL.out (by omega) (by unfold maxLen; omega)).mono ?_
              rintro e w13 ⟨hd13, hl13⟩
              have hgtr : gt + 1 ≤ wr.heap.size := Nat.le_trans sz5 M12.out.size
              have M13 : Hid (Below (gt + 1) w5 w13) := Lib.hid (M12.out.trans (hl13.mono hgtr))
              have L13 := Lib.hid (L12.out.trans (hl13.mono L12.out.size))
              obtain ⟨A13, c13, rfl, r13, lc13, cm13⟩ := hd13.sh
              have R13 := Lib.hid r13
              have C13 := Lib.hid cm13
              have k1 := conv_lst (c := c1) (H1.out.below L13.out (Nat.le_refl _))
              clear hd13 hl13 r13 B12 M12 L12
              go_wp2_with fail
              clear k1
              refine (docDecode_any L w13 HL.out (by unfold maxLen; omega)).mono ?_
              rintro e w14 ⟨hd14, hl14⟩
              have hgtr2 : gt + 1 ≤ w13.heap.size := Nat.le_trans sz5 M13.out.size
              have M14 : Hid (Below (gt + 1) w5 w14) := Lib.hid (M13.out.trans (hl14.mono hgtr2))
              have L14 := Lib.hid (L13.out.trans (hl14.mono L13.out.size))
              obtain ⟨A14, c14, rfl, r14, lc14, cm14⟩ := hd14.sh
              have R14 := Lib.hid r14
              have C14 := Lib.hid cm14
              have R133 := Lib.hid (R13.out.below hl14 (Nat.le_refl _))
              have k1 := conv_lst (c := c1) (H1.out.below L14.out (Nat.le_refl _))
              have k2 := conv_lst (c := L.length + 9) (inR (B5.out.below M14.out (by omega)) (by omega) HL.out (Nat.lt_succ_self _))
              clear hd14 hl14 r14 M13 L13
              generalize outE L = UE at *
              generalize outL L = U at *
              unfold maxLen at cm13 cm14
              go_wp2_with fail
              clear k1 k2
              refine (same_any (some ⟨gt, 0, none⟩) A2 l l (l.length + 2) c2 (gt + 1) w.heap.size w14 (R5.out.below M14.out (Nat.le_refl _)) (H2.out.below L14.out (Nat.le_refl _)) (by omega) (by unfold maxLen; omega) lc2 C2.out).mono ?_
              rintro e w15 ⟨hs, n15, hw15⟩
              have L15 : Hid (Below w.heap.size w w15) := Lib.hid (by rw [hw15]; exact below_drew2 L14.out n15)
              have R135 : Hid (RdI w15 w13.heap.size A13 U) := Lib.hid (by rw [hw15]; exact R133.out)
              have R145 : Hid (RdI w15 w14.heap.size A14 U) := Lib.hid (by rw [hw15]; exact R14.out)
              clear hw15
              rcases hs with ⟨_, rfl⟩ | ⟨h, _⟩
              rotate_left
              · exact absurd rfl h
              go_wp2_with fail
              refine (same_any A13 A14 U U c13 c14 w13.heap.size w14.heap.size w15 R135.out R145.out lc13 C13.out lc14 C14.out).mono ?_
              rintro e w16 ⟨hs, n16, hw16⟩
              have L16 : Hid (Below w.heap.size w w16) := Lib.hid (by rw [hw16]; exact below_drew2 L15.out n16)
              clear hw16
              rcases hs with ⟨_, rfl⟩ | ⟨h, _⟩
              · go_wp2_with fail
                go_ret
                exact ⟨rfl, L16.out⟩
              · exact absurd rfl h
end packApart
end Go.Proofs.YtllglgkphlkopaaDoor
