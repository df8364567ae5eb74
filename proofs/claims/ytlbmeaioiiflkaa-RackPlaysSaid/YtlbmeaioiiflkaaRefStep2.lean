/-
  'step' by kinds: Write, Crash. Conditions: both racks stand for the same; picks lie below them.
-/
import Derived.Test.YtlbmeaioiiflkaaRefStep
namespace Go.Proofs.Ytlbmeaioiiflkaa
open Go Go.RowKit
set_option maxRecDepth 100000
set_option linter.unusedVariables false
namespace refRack
section
variable {B : Nat} {w w' : World} {r g c : Nat} {s t : RS}
set_option maxHeartbeats 1600000 in
theorem step_write (k d a f n : Int) (pa : Option Addr) (pn pc : Nat) (hk : k = 2) (hf : I64 f) (hn : I64 n) (hc : c ≤ 900000) (h : Both B w r g s t c) :
    Calls Try.prog 12 #[.pointer (some ⟨r, 0, none⟩), .pointer (some ⟨g, 0, none⟩), .agg #[.int .i64 k, .int .i64 d, .int .i64 a, .int .i64 f, .int .i64 n, .slice pa pn pc]] w fun e w' => e = .returned (.bool true) ∧ (∃ s' t', Both B w' r g s' t' (c + 1)) ∧ Below B w w' := by
  subst hk
  have bA : Below w.heap.size w (w.alloc (.cells #[.int .i64 2, .int .i64 d, .int .i64 a, .int .i64 f, .int .i64 n, .slice pa pn pc] 39)) := (Below.refl _ _).alloc (Nat.le_refl _) _
  have HB := Lib.hid (h.below bA)
  have L1 := Lib.hid (bA.mono h.le)
  have X1 := Lib.hid (Blk.new w 39 #[.int .i64 2, .int .i64 d, .int .i64 a, .int .i64 f, .int .i64 n, .slice pa pn pc])
  have k0 : (w.alloc (.cells #[.int .i64 2, .int .i64 d, .int .i64 a, .int .i64 f, .int .i64 n, .slice pa pn pc] 39)).cell? ⟨w.heap.size, 0, none⟩ = some (.int .i64 2) := X1.out.cell 0
  have k1 : (w.alloc (.cells #[.int .i64 2, .int .i64 d, .int .i64 a, .int .i64 f, .int .i64 n, .slice pa pn pc] 39)).cell? ⟨w.heap.size, 1, none⟩ = some (.int .i64 d) := X1.out.cell 1
  have k2 : (w.alloc (.cells #[.int .i64 2, .int .i64 d, .int .i64 a, .int .i64 f, .int .i64 n, .slice pa pn pc] 39)).cell? ⟨w.heap.size, 2, none⟩ = some (.int .i64 a) := X1.out.cell 2
  have k3 : (w.alloc (.cells #[.int .i64 2, .int .i64 d, .int .i64 a, .int .i64 f, .int .i64 n, .slice pa pn pc] 39)).cell? ⟨w.heap.size, 3, none⟩ = some (.int .i64 f) := X1.out.cell 3
  have k4 : (w.alloc (.cells #[.int .i64 2, .int .i64 d, .int .i64 a, .int .i64 f, .int .i64 n, .slice pa pn pc] 39)).cell? ⟨w.heap.size, 4, none⟩ = some (.int .i64 n) := X1.out.cell 4
  obtain ⟨W1, hW1⟩ : ∃ W1, W1 = w.alloc (.cells #[.int .i64 2, .int .i64 d, .int .i64 a, .int .i64 f, .int .i64 n, .slice pa pn pc] 39) := ⟨_, rfl⟩
  have HW1 := Lib.hid hW1
  rw [← hW1] at HB L1 X1
  have HF := Lib.hid hf
  obtain ⟨hn1, hn2⟩ := hn
  clear h bA hW1 hf
  go_enter Try.func12, Try.ntmps12
  go_upto_region 13 with (fail)
  go_cut [69] (fun x wx => ∃ bb : Bool, x = .bool bb ∧ Hid (bb = decide (n < -200 ∨ 200 < n)) ∧ wx = w.alloc (.cells #[.int .i64 2, .int .i64 d, .int .i64 a, .int .i64 f, .int .i64 n, .slice pa pn pc] 39))
  case first =>
    by_cases h1 : n < -200
    · have t1 : decide (n < -200) = true := by simpa using h1
      have hb : decide (n < -200 ∨ 200 < n) = true := decide_eq_true (.inl h1)
      go_wp2_with fail
      go_meet
      exact ⟨_, rfl, Lib.hid hb.symm, rfl⟩
    · have t1 : decide (n < -200) = false := by simpa using h1
      by_cases h2 : 200 < n
      · have t2 : decide (200 < n) = true := by simpa using h2
        have hb : decide (n < -200 ∨ 200 < n) = true := decide_eq_true (.inr h2)
        go_wp2_with fail
        go_meet
        exact ⟨_, rfl, Lib.hid hb.symm, rfl⟩
      · have t2 : decide (200 < n) = false := by simpa using h2
        have hb : decide (n < -200 ∨ 200 < n) = false := decide_eq_false (by omega)
        go_wp2_with fail
        go_meet
        exact ⟨_, rfl, Lib.hid hb.symm, rfl⟩
  case rest =>
  obtain ⟨bb, rfl, HBB, rfl⟩ := hcut
  go_upto_if 69 with (fail)
  go_cut [13] (fun x wx => ∃ m : Int, x = .int .i64 m ∧ Hid (-200 ≤ m ∧ m ≤ 200) ∧ wx = w.alloc (.cells #[.int .i64 2, .int .i64 d, .int .i64 a, .int .i64 f, .int .i64 n, .slice pa pn pc] 39))
  case first =>
    cases bb with
    | true =>
      clear HBB
      go_wp2_with fail
      go_meet
      exact ⟨1, rfl, Lib.hid (by omega), rfl⟩
    | false =>
      have hb := of_decide_eq_false HBB.out.symm
      clear HBB
      have HN : Hid (-200 ≤ n ∧ n ≤ 200) := Lib.hid (by omega)
      clear hb
      go_wp2_with fail
      go_meet
      exact ⟨n, rfl, HN, rfl⟩
  case rest =>
  clear HBB
  obtain ⟨m, rfl, HM, rfl⟩ := hcut
  clear hn1 hn2 k0 k4
  obtain ⟨N, hN⟩ : ∃ N, N = (128 + m).toNat := ⟨_, rfl⟩
  have HN := Lib.hid hN
  have hN2 : Hid (N ≤ 400) := Lib.hid (by have := HM.out; omega)
  clear hN
  go_wp2_with fail
  refine (bytes_any f m N _ HF.out HM.out HN.out).mono ?_
  rintro e w2 ⟨rfl, hb, b2⟩
  rw [← HW1.out] at hb b2
  obtain ⟨gb, hgb⟩ : ∃ gb, gb = W1.heap.size := ⟨_, rfl⟩
  rw [← hgb] at hb
  obtain ⟨X, hX⟩ : ∃ X, X = bv N f := ⟨_, rfl⟩
  have HX : Hid (∀ j, j < 128 → X j < 256) := Lib.hid fun j _ => by rw [hX]; exact bv_lt N f j
  rw [← hX] at hb
  obtain ⟨T, hT⟩ : ∃ T, T = strB N X := ⟨_, rfl⟩
  have HT := Lib.hid hT
  have cv := conv_bytes (c := N) hb (X := X) (o := 0) (n := N) (fun j hj => by rw [Nat.zero_add]; exact rowArr_get hj)
  rw [← hT] at cv
  have G2 := Lib.hid hb
  have R2 := Lib.hid (HB.out.rack.below b2)
  have T2 := Lib.hid (HB.out.ref.below b2)
  have L2 := Lib.hid (L1.out.trans (b2.mono HB.out.le))
  have X2 := Lib.hid (X1.out.new_ b2)
  have HGB : Hid (B ≤ gb) := Lib.hid (by rw [hgb]; exact HB.out.le)
  have j1 : w2.cell? ⟨w.heap.size, 1, none⟩ = some (.int .i64 d) := X2.out.cell 1
  have j2 : w2.cell? ⟨w.heap.size, 2, none⟩ = some (.int .i64 a) := X2.out.cell 2
  rw [← HW1.out]
  rw [← hgb]
  have hNx : N ≤ 9223372036854775806 := by have := hN2.out; omega
  clear hgb hX hT hb b2 k1 k2 k3 X1 L1 HN HM
  go_wp2_with fail
  obtain ⟨y, hy⟩ : ∃ y, y = wrE s d a N := ⟨_, rfl⟩
  have HR := Lib.hid (wr_tot w2 r s d a gb N N X G2.out HX.out (by have := HB.out.cost; omega) R2.out)
  rw [← hy] at HR
  have HK : Hid (∀ W, TAt B W g t → Calls Try.prog 26 #[.pointer (some ⟨g, 0, none⟩), .int .i64 d, .int .i64 a, .string T] W fun e w' => e = .returned (.int .i64 y) ∧ TAt B w' g (wrS t d a N X) ∧ KeepR B W w') := Lib.hid fun W hw => by
    have q := wr_tot_k W g t d a N X HB.out.left (by have := HB.out.nw; omega) hw
    rw [HB.out.sim.wrE, ← hy] at q
    rw [HT.out]
    exact q
  clear hy
  refine HR.out.mono ?_
  rintro e w3 ⟨rfl, h3, q3⟩
  have T3 := Lib.hid (T2.out.keepRack q3)
  have R3 := Lib.hid h3
  have L3 := Lib.hid (L2.out.trans q3.below)
  have X3 := Lib.hid (q3.block X2.out rfl)
  have G3 := Lib.hid (q3.block G2.out rfl)
  have S3 := Lib.hid (HB.out.sim.wrS d a N X)
  have C3 : Hid ((wrS s d a N X).cost ≤ c + 1) := Lib.hid (by have := wrS_cost s d a N X; have := HB.out.cost; omega)
  clear h3 q3 R2 T2 L2 X2 G2 HR j1 j2 cv HB HX HT
  generalize wrS s d a N X = s3 at *
  generalize wrS t d a N X = t3 at *
  go_wp2_with fail
  go_loopw [17] (fun x wr => ∃ (i : Nat) (Y : Nat → Nat), i ≤ N ∧ x = .int .i64 i ∧ Hid (w3.grownBy wr (some gb)) ∧ Hid (Blk wr gb 5 (rowArr N Y))) (fun x _ => N - (intOf x).toNat)
  case atStart => exact ⟨0, _, by omega, rfl, Lib.hid (World.grownBy.refl _ _), G3⟩
  case round =>
    obtain ⟨i, Y, hiN, rfl, G, O⟩ := hrel
    by_cases hi : i < N
    · have t1 : decide (i < N) = true := by simpa using hi
      have hu : wr.cell? ⟨gb, i, none⟩ = some (.int .u8 ((Y i : Nat) : Int)) := (O.out.cell i).trans (rowArr_get hi)
      have fz := O.out.frozen i
      have O2 : Hid (Blk (wr.setCell ⟨gb, i, none⟩ (.int .u8 85)) gb 5 (rowArr N fun j => if j = i then 85 else Y j)) := Lib.hid (by
        have q := O.out.set_ i (.int .u8 ((85 : Nat) : Int))
        rw [rowArr_set hi] at q
        exact q)
      have G2 := Lib.hid (grown_trans G.out (grown_set wr gb i (.int .u8 85)))
      clear O G
      go_wp2_with fail
      go_roundw
      case rel => exact ⟨i + 1, _, by omega, by go_num, G2, O2⟩
      case measure => simp [intOf]; omega
    · have t1 : decide (i < N) = false := by simpa using hi
      have R4 := Lib.hid (R3.out.grownFar G3.out rfl G.out)
      have T4 := Lib.hid (T3.out.grownFar G3.out G.out)
      have L4 := Lib.hid (grown_below L3.out G.out HGB.out R3.out.le)
      have hne : Hid (w.heap.size ≠ gb) := Lib.hid (fun e => Blk.ne_ X3.out G3.out (by decide) e)
      have X4 := Lib.hid (X3.out.grown G.out (fun e => hne.out (by injection e)))
      have j1 : wr.cell? ⟨w.heap.size, 1, none⟩ = some (.int .i64 d) := X4.out.cell 1
      have j2 : wr.cell? ⟨w.heap.size, 2, none⟩ = some (.int .i64 a) := X4.out.cell 2
      clear R3 T3 L3 X3 G3 G O
      go_wp2_with fail
      refine (HK.out wr T4.out).mono ?_
      rintro e w5 ⟨rfl, h5, q5⟩
      have B5 : Hid (Both B w5 r g s3 t3 (c + 1)) := Lib.hid ⟨R4.out.keepR q5, h5, S3.out, C3.out⟩
      have L5 := Lib.hid (L4.out.trans q5.below)
      have t7 : (y == y) = true := beq_self_eq_true _
      clear h5 q5 R4 T4 L4 X4 j1 j2 HK
      go_wp2_with fail
      go_ret
      exact ⟨by simp, ⟨_, _, B5.out⟩, L5.out⟩
set_option maxHeartbeats 1600000 in
theorem step_crash (k d a f n : Int) (pa : Option Addr) (pn pc : Nat) (px : Nat → Int) (hk : k = 5) (hp1 : RdI w B pa pn px) (hp2 : pn ≤ pc) (hp3 : pa = none → pc = 0) (hp4 : pn * 8 ≤ 140737488355328) (h : Both B w r g s t c) :
    Calls Try.prog 12 #[.pointer (some ⟨r, 0, none⟩), .pointer (some ⟨g, 0, none⟩), .agg #[.int .i64 k, .int .i64 d, .int .i64 a, .int .i64 f, .int .i64 n, .slice pa pn pc]] w fun e w' => e = .returned (.bool true) ∧ (∃ s' t', Both B w' r g s' t' (c + 1)) ∧ Below B w w' := by
  subst hk
  have bA : Below w.heap.size w (w.alloc (.cells #[.int .i64 5, .int .i64 d, .int .i64 a, .int .i64 f, .int .i64 n, .slice pa pn pc] 39)) := (Below.refl _ _).alloc (Nat.le_refl _) _
  have HB := Lib.hid (h.below bA)
  have L1 := Lib.hid (bA.mono h.le)
  have X1 := Lib.hid (Blk.new w 39 #[.int .i64 5, .int .i64 d, .int .i64 a, .int .i64 f, .int .i64 n, .slice pa pn pc])
  have k0 : (w.alloc (.cells #[.int .i64 5, .int .i64 d, .int .i64 a, .int .i64 f, .int .i64 n, .slice pa pn pc] 39)).cell? ⟨w.heap.size, 0, none⟩ = some (.int .i64 5) := X1.out.cell 0
  obtain ⟨W1, hW1⟩ : ∃ W1, W1 = w.alloc (.cells #[.int .i64 5, .int .i64 d, .int .i64 a, .int .i64 f, .int .i64 n, .slice pa pn pc] 39) := ⟨_, rfl⟩
  have hW1' : Hid (W1 = w.alloc (.cells #[.int .i64 5, .int .i64 d, .int .i64 a, .int .i64 f, .int .i64 n, .slice pa pn pc] 39)) := Lib.hid hW1
  rw [← hW1] at HB L1 X1
  have LS : B ≤ W1.heap.size := HB.out.le
  have H1 := Lib.hid hp1
  have H2 := Lib.hid hp2
  have H3 := Lib.hid hp3
  have H4 := Lib.hid hp4
  have bE : Below W1.heap.size W1 (W1.alloc (.cells #[] 3)) := (Below.refl _ _).alloc (Nat.le_refl _) _
  have RA := Lib.hid (HB.out.below bE)
  have LA := Lib.hid (L1.out.trans (bE.mono LS))
  have XA := Lib.hid (X1.out.alloc (.cells #[] 3))
  have k5 : (W1.alloc (.cells #[] 3)).cell? ⟨w.heap.size, 5, none⟩ = some (.slice pa pn pc) := XA.out.cell 5
  have IA : Hid (RdI W1 B pa pn px) := Lib.hid (hp1.below L1.out)
  clear h bA bE hW1 hp1 hp2 hp3 hp4
  go_enter Try.func12, Try.ntmps12
  go_upto_region 30 with (fail)
  rw [← hW1'.out]
  clear hW1'
  go_wp2_with (at_builtin; refine wpList_append_ints rfl (.tmp 121) (.tmp 123) rfl rfl rfl IA.out LS H4.out H3.out H2.out ?_; intro A' c' w5 hI hb5)
  have I5 := Lib.hid hI
  have R5 := Lib.hid (HB.out.below hb5)
  have L5 := Lib.hid (L1.out.trans (hb5.mono LS))
  have X5 := Lib.hid (X1.out.new_ hb5)
  have J5 := Lib.hid (H1.out.below L5.out)
  clear hI hb5 IA RA LA k0 k5 HB L1 X1 XA LS
  go_wp2_with fail
  refine (crash_any _ r s A' pn c' px R5.out.rack I5.out).mono ?_
  rintro e w6 ⟨rfl, h6, q6⟩
  have T6 := Lib.hid (R5.out.ref.keepRack q6)
  have R6 := Lib.hid h6
  have L6 := Lib.hid (L5.out.trans q6.below)
  have X6 := Lib.hid (q6.block X5.out rfl)
  have J6 := Lib.hid (J5.out.below q6.below)
  have m5 : w6.cell? ⟨w.heap.size, 5, none⟩ = some (.slice pa pn pc) := X6.out.cell 5
  clear h6 q6 L5 X5 J5 I5
  obtain ⟨vL, vG, vW, H, C, tk⟩ := T6.out
  have TK6 := Lib.hid tk
  clear tk T6
  go_wp2_with fail
  refine (crash_k w6 g t pa pn pc px R5.out.places J6.out TK6.out).mono ?_
  rintro e w7 ⟨rfl, h7, q7⟩
  have B7 : Hid (Both B w7 r g (s.crashed (odd pn px)) (t.crashed (odd pn px)) (c + 1)) := Lib.hid ⟨R6.out.keepR q7, h7, R5.out.sim.crashed _, by have := R5.out.cost; show s.cost ≤ c + 1; omega⟩
  have L7 := Lib.hid (L6.out.trans q7.below)
  clear h7 q7 R6 L6 X6 J6 m5 TK6 R5
  go_wp2_with fail
  go_ret
  exact ⟨rfl, ⟨_, _, B7.out⟩, L7.out⟩
end
end refRack
end Go.Proofs.Ytlbmeaioiiflkaa
