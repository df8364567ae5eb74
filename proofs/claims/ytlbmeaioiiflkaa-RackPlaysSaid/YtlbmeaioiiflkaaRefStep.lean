/-
  'step' by kinds: Read, Write, Crash. Conditions: both racks stand for the same; picks lie below them.
-/
import Derived.Test.YtlbmeaioiiflkaaRefTot
import Derived.Test.YtlbmeaioiiflkaaRackOps
import Derived.Deep.DeepCutAuto
namespace Go.Proofs.Ytlbmeaioiiflkaa
open Go Go.RowKit
set_option maxRecDepth 100000
set_option linter.unusedVariables false
namespace refRack
section
variable {B : Nat} {w w' : World} {r g c : Nat} {s t : RS}
theorem TAt.grownFar {l : Nat} {cs : Array Value} (h : TAt B w g t) (hb : Blk w l 5 cs) (hg : w.grownBy w' (some l)) : TAt B w' g t := by
  obtain ⟨vL, vG, vW, H, C, h⟩ := h
  have ok : ∀ {n c : Nat} {e : TypeId} {v : Value} {xs : List Value}, (e == 5) = false → w.ownsRow B e c v n xs → w'.ownsRow B e c v n xs := fun he h1 => own_keep h1 fun g1 hg1 => hg.block g1 (own_lt h1 hg1).1 (fun e => own_not_blk h1 hb he (hg1.trans e))
  exact ⟨vL, vG, vW, H, C, h.blk.grown hg (fun e => Blk.ne_ h.blk hb (by decide) (by injection e)), h.hg, ok rfl h.heads, fun d hd => ok rfl (h.rows d hd), h.apart, ok rfl h.lost, ok rfl h.waits⟩
theorem own_conv {n : Nat} {v : Value} {X : Nat → Nat} (h : w.ownsRow B 5 1 v n (rowL n X)) : (convert 43 9 v).run Try.prog w = .ok (.string (strB n X)) w := by
  rcases Nat.eq_zero_or_pos n with rfl | hn
  · rcases h.2 with ⟨rfl, _⟩ | ⟨g1, cap, cur, rfl, _, h3, _⟩
    · rfl
    · exact conv_bytes (X := X) (o := 0) h3 (fun j hj => absurd hj (Nat.not_lt_zero _))
  · exact (Row8.of_own h hn).conv
theorem grown_trans {a b : World} {row : Option Nat} (h : w.grownBy a row) (k : a.grownBy b row) : w.grownBy b row :=
  ⟨k.os.trans h.os, k.tape.trans h.tape, k.output.trans h.output, Nat.le_trans h.size k.size, fun i hi hne => (k.block i (Nat.lt_of_lt_of_le hi h.size) hne).trans (h.block i hi hne)⟩
theorem grown_below {a : World} {l : Nat} (h : Below B a w) (hg : w.grownBy w' (some l)) (hl : B ≤ l) (hB : B ≤ w.heap.size) : Below B a w' :=
  h.trans ⟨hg.os, hg.tape, hg.output, hg.size, fun k hk => hg.block k (by omega) (fun e => by injection e; omega)⟩
/-- after a call that answers: what the law sees -/
abbrev StepQ (B : Nat) (w : World) (r g c : Nat) (e : Ending) (w' : World) : Prop := e = .returned (.bool true) ∧ (∃ s' t', Both B w' r g s' t' (c + 1)) ∧ Below B w w'
set_option maxHeartbeats 1600000 in
theorem step_read (k d a f n : Int) (pa : Option Addr) (pn pc : Nat) (hk : k = 1) (h : Both B w r g s t c) :
    Calls Try.prog 12 #[.pointer (some ⟨r, 0, none⟩), .pointer (some ⟨g, 0, none⟩), .agg #[.int .i64 k, .int .i64 d, .int .i64 a, .int .i64 f, .int .i64 n, .slice pa pn pc]] w fun e w' => e = .returned (.bool true) ∧ (∃ s' t', Both B w' r g s' t' (c + 1)) ∧ Below B w w' := by
  subst hk
  have bA : Below w.heap.size w (w.alloc (.cells #[.int .i64 1, .int .i64 d, .int .i64 a, .int .i64 f, .int .i64 n, .slice pa pn pc] 39)) := (Below.refl _ _).alloc (Nat.le_refl _) _
  have HB := Lib.hid (h.below bA)
  have L1 := Lib.hid (bA.mono h.le)
  have X1 := Lib.hid (Blk.new w 39 #[.int .i64 1, .int .i64 d, .int .i64 a, .int .i64 f, .int .i64 n, .slice pa pn pc])
  obtain ⟨W1, hW1⟩ : ∃ W1, W1 = w.alloc (.cells #[.int .i64 1, .int .i64 d, .int .i64 a, .int .i64 f, .int .i64 n, .slice pa pn pc] 39) := ⟨_, rfl⟩
  have k0 : (w.alloc (.cells #[.int .i64 1, .int .i64 d, .int .i64 a, .int .i64 f, .int .i64 n, .slice pa pn pc] 39)).cell? ⟨w.heap.size, 0, none⟩ = some (.int .i64 1) := X1.out.cell 0
  have k1 : (w.alloc (.cells #[.int .i64 1, .int .i64 d, .int .i64 a, .int .i64 f, .int .i64 n, .slice pa pn pc] 39)).cell? ⟨w.heap.size, 1, none⟩ = some (.int .i64 d) := X1.out.cell 1
  have k2 : (w.alloc (.cells #[.int .i64 1, .int .i64 d, .int .i64 a, .int .i64 f, .int .i64 n, .slice pa pn pc] 39)).cell? ⟨w.heap.size, 2, none⟩ = some (.int .i64 a) := X1.out.cell 2
  obtain ⟨y, hy⟩ : ∃ y, y = s.deny d a := ⟨_, rfl⟩
  obtain ⟨m, hm⟩ : ∃ m, m = rdN s d a := ⟨_, rfl⟩
  obtain ⟨X, hX⟩ : ∃ X, X = s.holds d.toNat a.toNat := ⟨_, rfl⟩
  obtain ⟨T, hT⟩ : ∃ T, T = strB m X := ⟨_, rfl⟩
  have HR := Lib.hid (read_tot W1 r s d a (by rw [hW1]; exact HB.out.rack))
  have HK : Hid (∀ W, TAt B W g t → Calls Try.prog 25 #[.pointer (some ⟨g, 0, none⟩), .int .i64 d, .int .i64 a] W fun e w' => e = .returned (.tuple #[.string T, .int .i64 y]) ∧ w' = W) := Lib.hid fun W hw => by
    have q := read_tot_k W g t d a hw
    rw [HB.out.sim.said, HB.out.sim.deny] at q
    rw [hT, hm, hX, hy]
    exact q
  rw [← hy, ← hm, ← hX] at HR
  rw [hW1] at HR
  have HT := Lib.hid hT
  have hm70 : Hid (m ≤ 128) := Lib.hid (by rw [hm]; unfold rdN; split <;> omega)
  have hmx : m ≤ 9223372036854775806 := by have := hm70.out; omega
  have hBs : Hid (B ≤ (w.alloc (.cells #[.int .i64 1, .int .i64 d, .int .i64 a, .int .i64 f, .int .i64 n, .slice pa pn pc] 39)).heap.size) := Lib.hid HB.out.le
  clear h bA hW1 hy hm hX hT
  go_enter Try.func12, Try.ntmps12
  go_wp2_with fail
  refine HR.out.mono ?_
  rintro e w2 ⟨⟨v, rfl, ho⟩, h2, q2⟩
  have T2 := Lib.hid (HB.out.ref.keepRack q2)
  have R2 := Lib.hid h2
  have L2 := Lib.hid (L1.out.trans q2.below)
  have X2 := Lib.hid (q2.block X1.out rfl)
  have j1 : w2.cell? ⟨w.heap.size, 1, none⟩ = some (.int .i64 d) := X2.out.cell 1
  have j2 : w2.cell? ⟨w.heap.size, 2, none⟩ = some (.int .i64 a) := X2.out.cell 2
  have OW := Lib.hid ho
  obtain ⟨A, cc, rfl⟩ := own_shape ho
  clear h2 q2 L1 k0 k1 k2 ho HR X1
  go_wp2_with fail
  refine (HK.out w2 T2.out).mono ?_
  rintro e w' ⟨rfl, rfl⟩
  have cv := own_conv OW.out
  rw [← HT.out] at cv
  have t6 : (T.toList == T.toList) = true := beq_self_eq_true _
  have t7 : (y == y) = true := beq_self_eq_true _
  clear HK j1 j2 X2
  go_wp2_with fail
  clear cv t6 t7
  have B2 : Hid (Both B w' r g s t (c + 1)) := Lib.hid ⟨R2.out, T2.out, HB.out.sim, by have := HB.out.cost; omega⟩
  clear R2 T2 HB
  rcases Nat.eq_zero_or_pos m with h0 | hpos
  · subst h0
    go_loopw [12] (fun x wr => x = .int .i64 0 ∧ wr = w') (fun x _ => 0)
    case atStart => exact ⟨rfl, rfl⟩
    case round =>
      obtain ⟨rfl, rfl⟩ := hrel
      go_wp2_with fail
      go_ret
      exact ⟨rfl, ⟨_, _, B2.out⟩, L2.out⟩
  · obtain ⟨l, rfl, hl⟩ : ∃ l, A = some ⟨l, 0, none⟩ ∧ (w.alloc (.cells #[.int .i64 1, .int .i64 d, .int .i64 a, .int .i64 f, .int .i64 n, .slice pa pn pc] 39)).heap.size ≤ l := by
      rcases OW.out.2 with ⟨e, e2⟩ | ⟨l, cap, cur, e, h2, _⟩
      · omega
      · injection e with e1
        exact ⟨l, e1, h2⟩
    have HL := Lib.hid hl
    clear hl
    go_loopw [12] (fun x wr => ∃ (i : Nat) (xs : List Value), i ≤ m ∧ x = .int .i64 i ∧ Hid (w'.grownBy wr (some l)) ∧ Hid (wr.ownsRow (w.alloc (.cells #[.int .i64 1, .int .i64 d, .int .i64 a, .int .i64 f, .int .i64 n, .slice pa pn pc] 39)).heap.size 5 1 (.slice (some ⟨l, 0, none⟩) m cc) m xs)) (fun x _ => m - (intOf x).toNat)
    case atStart => exact ⟨0, _, by omega, rfl, Lib.hid (World.grownBy.refl _ _), OW⟩
    case round =>
      obtain ⟨i, xs, him, rfl, G, O⟩ := hrel
      by_cases hi : i < m
      · have t1 : decide (i < m) = true := by simpa using hi
        obtain ⟨u, hu⟩ : ∃ u, wr.cell? ⟨l, i, none⟩ = some u := by
          rw [O.out.cellAt i (by omega)]
          have := O.out.1
          exact ⟨_, List.getElem?_eq_getElem (by omega)⟩
        have fz := O.out.frozenAt i
        have O2 := Lib.hid (O.out.stored i (.int .u8 170)).1
        have G2 := Lib.hid (grown_trans G.out (O.out.stored i (.int .u8 170)).2)
        clear O G
        go_wp2_with fail
        go_roundw
        case rel => exact ⟨i + 1, _, by omega, by go_num, G2, O2⟩
        case measure => simp [intOf]; omega
      · have t1 : decide (i < m) = false := by simpa using hi
        have B3 : Hid (Both B wr r g s t (c + 1)) := Lib.hid (by
          obtain ⟨_, cs, hcs⟩ := own_blk OW.out rfl
          exact ⟨B2.out.rack.grownFar hcs rfl G.out, B2.out.ref.grownFar hcs G.out, B2.out.sim, B2.out.cost⟩)
        have L3 := Lib.hid (grown_below L2.out G.out (Nat.le_trans hBs.out HL.out) B2.out.le)
        clear O G B2 L2 OW
        go_wp2_with fail
        go_ret
        exact ⟨rfl, ⟨_, _, B3.out⟩, L3.out⟩
end
end refRack
end Go.Proofs.Ytlbmeaioiiflkaa
