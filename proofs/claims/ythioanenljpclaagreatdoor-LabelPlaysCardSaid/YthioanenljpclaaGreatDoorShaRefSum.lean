/-
  'hoardref04.Sum' by a contract: the document's answer is the sum. Conditions: texts below 2^40 bytes.
-/
import Derived.Test.YthioanenljpclaaGreatDoorShaRefRegs
namespace Go.Proofs.YthioanenljpclaaGreatDoor
set_option maxRecDepth 100000
open Go Go.RowKit
set_option linter.unusedVariables false

theorem or_step (a b k : Nat) (hb : b < 256) : (a <<< (k + 8)) ||| (b <<< k) = (a * 256 + b) <<< k := by
  rw [Nat.add_comm k 8, Nat.shiftLeft_add, ← Nat.shiftLeft_or_distrib, Nat.shiftLeft_eq a 8, Nat.mul_comm a (2 ^ 8), ← Nat.two_pow_add_eq_or_of_lt (i := 8) hb a]
theorem num_sum {X : Nat → Nat} (hX : ∀ j, X j < 256) (o : Nat) : M.num X o = ((X o * 256 + X (o + 1)) * 256 + X (o + 2)) * 256 + X (o + 3) := by
  unfold M.num
  rw [or_step (X o) (X (o + 1)) 16 (hX _), or_step _ (X (o + 2)) 8 (hX _)]
  have h := or_step ((X o * 256 + X (o + 1)) * 256 + X (o + 2)) (X (o + 3)) 0 (hX _)
  rw [Nat.shiftLeft_zero, Nat.shiftLeft_zero] at h
  exact h
theorem prime_lt (i : Nat) : lget M.primes64 i < 4294967296 := by
  have h : M.primes64.all (fun p => decide (p < 4294967296)) = true := by decide +kernel
  unfold lget
  rw [List.getD_eq_getElem?_getD]
  cases e : M.primes64[i]? with
  | none => simp
  | some p =>
    have hm := List.all_eq_true.1 h p (List.mem_of_getElem? e)
    simpa using hm

def accN (X : Nat → Nat) (o : Nat) : Nat → Nat
  | 0 => 0
  | c + 1 => accN X o c * 256 + X (o + c)
theorem accN_lt {X : Nat → Nat} (hX : ∀ j, X j < 256) (o : Nat) : ∀ c, c ≤ 4 → accN X o c < 256 ^ c
  | 0, _ => by simp [accN]
  | c + 1, h => by
    have h1 := accN_lt hX o c (by omega)
    have h2 := hX (o + c)
    rw [Nat.pow_succ]
    unfold accN
    omega
theorem accN_le {X : Nat → Nat} (hX : ∀ j, X j < 256) (o c : Nat) (h : c ≤ 4) : accN X o c < 4294967296 :=
  Nat.lt_of_lt_of_le (accN_lt hX o c h) (Nat.pow_le_pow_right (n := 256) (by omega) h)
theorem M.msg_lt {n : Nat} {X : Nat → Nat} (hX : ∀ j, X j < 256) (j : Nat) : M.msg n X j < 256 := by
  unfold M.msg
  split
  · exact hX _
  · exact M.rest_lt hX 8 _
theorem accN_num {X : Nat → Nat} (hX : ∀ j, X j < 256) (o : Nat) : accN X o 4 = M.num X o := by
  rw [num_sum hX]
  simp [accN]

set_option maxRecDepth 100000 in
set_option maxHeartbeats 32000000 in
theorem rsum_any (n : Nat) (X : Nat → Nat) (w : World) (hX : ∀ j, X j < 256) (hn : n ≤ 1099511627776) :
    Calls Tryz.prog 63 #[.string (strB n X)] w fun e w' => e = .returned (.string (strB 32 (M.sum n X))) ∧ Below w.heap.size w w' := by
  go_enter Tryz.func63, Tryz.ntmps63
  go_wp2_with fail
  refine (primes_any _).mono ?_
  rintro e w1 ⟨v1, rfl, ho1, hl1⟩
  obtain ⟨gp, cp, rfl, hgp, hrp, hcp, hcpm⟩ := ho1.rowN (by omega)
  have L1 := Lib.hid hl1
  have P1 := Lib.hid hrp
  have hgp1 := hrp.lt
  have hz1 := hl1.size
  clear ho1 hl1 hrp
  generalize hB1 : w1.heap.size = B1 at *
  have K1 : Hid (Below B1 w1 w1) := Lib.hid (by rw [← hB1]; exact Below.refl _ _)
  have HB1 := Lib.hid hB1
  clear hB1
  go_wp2_with fail
  go_loopw [4, 5, 6] (fun vh vk x wr => ∃ i : Nat, i ≤ 64 ∧ x = .int .i64 i ∧ Hid (Own64 wr B1 vk i M.rt) ∧ Hid (Own64 wr B1 vh (min i 8) M.init.get) ∧ Hid (∀ g, vh.ownBlock = some g → vk.ownBlock ≠ some g) ∧ Hid (Below B1 w1 wr)) (fun _ _ x _ => 64 - (intOf x).toNat)
  case atStart => exact ⟨0, by omega, rfl, Own64.nil _ _ _, Own64.nil _ _ _, Lib.hid (fun g h => by simp [Value.ownBlock] at h), K1⟩
  case round =>
    obtain ⟨i, hi, rfl, OK, OH, DJ, K2⟩ := hrel
    clear K1
    by_cases hlt : i < 64
    · have i1 : (0 : Int) ≤ (i : Int) := by omega
      have i2 : (i : Int) < 64 := by omega
      have c1 : wr.cell? ⟨gp, i, none⟩ = some (.int .u64 ((lget M.primes64 i : Nat) : Int)) := (P1.out.below K2.out hgp1).cell hlt
      have hp := prime_lt i
      have HRT : Hid (M.rootTo (lget M.primes64 i) true 38 % 4294967296 = M.rt i) := Lib.hid (M.root_rt i hlt)
      have HRI : Hid (i < 8 → M.rootTo (lget M.primes64 i) false 38 % 4294967296 = M.init.get i) := Lib.hid (fun h => M.root_init i h)
      generalize lget M.primes64 i = p at *
      have hzr : B1 ≤ wr.heap.size := by have := K2.out.size; rw [HB1.out] at this; exact this
      go_wp2_with fail
      refine (root_any p true hp _).mono ?_
      rintro e w' ⟨rfl, rfl⟩
      rw [HRT.out]
      clear HRT
      go_wp2_with ((with_reducible refine wpList_push64 rfl (.tmp 27) (.tmp 33) rfl rfl rfl OK.out (by omega) hzr ?_); intro v3 w3 ho3 hg3 hat3; refine of_hid ?_)
      refine Lib.hid ?_
      have K3 := Lib.hid (own64_grown K2.out OK.out _ hg3 hzr)
      have OK3 : Hid (Own64 w3 B1 v3 (i + 1) M.rt) := Lib.hid (ho3.congr fun j hj => by
        unfold upd
        by_cases h : j = i
        · rw [if_pos h, h]
        · rw [if_neg h])
      have OH3 : Hid (Own64 w3 B1 u4 (min i 8) M.init.get) := Lib.hid ((OH.out.alloc _).keep fun g hg => hg3.block g (by simp; have := (OH.out.lt hg).1; omega) (fun e => DJ.out g hg e.symm))
      have DJ3 : Hid (∀ g, u4.ownBlock = some g → v3.ownBlock ≠ some g) := Lib.hid (fun g hg e => by
        rcases hat3 with h | h
        · exact DJ.out g hg (h.symm.trans e)
        · rw [h] at e
          injection e with e
          have := (OH.out.lt hg).1
          omega)
      have hzr3 : B1 ≤ w3.heap.size := by have := K3.out.size; rw [HB1.out] at this; exact this
      have c3 : w3.cell? ⟨gp, i, none⟩ = some (.int .u64 ((p : Nat) : Int)) := by
        have h1 := K3.out.cell (p := ⟨gp, i, none⟩) hgp1
        have h2 := K2.out.cell (p := ⟨gp, i, none⟩) hgp1
        rw [h1, ← h2]
        exact c1
      clear ho3 hg3 hat3 OK OH DJ K2 c1 hzr
      by_cases h8 : i < 8
      · have hi8 : (i : Int) < 8 := by omega
        have hmin : min i 8 = i := by omega
        have hmin2 : min (i + 1) 8 = i + 1 := by omega
        rw [hmin] at OH3
        have HRI2 := Lib.hid (HRI.out h8)
        go_wp2_with fail
        refine (root_any p false hp _).mono ?_
        rintro e w' ⟨rfl, rfl⟩
        rw [HRI2.out]
        clear HRI HRI2
        go_wp2_with ((with_reducible refine wpList_push64 rfl (.tmp 37) (.tmp 43) rfl rfl rfl OH3.out (by omega) hzr3 ?_); intro v4 w4 ho4 hg4 hat4; refine of_hid ?_)
        refine Lib.hid ?_
        have K4 := Lib.hid (own64_grown K3.out OH3.out _ hg4 hzr3)
        have OH4 : Hid (Own64 w4 B1 v4 (min (i + 1) 8) M.init.get) := Lib.hid (by
          rw [hmin2]
          exact ho4.congr fun j hj => by
            unfold upd
            by_cases h : j = i
            · rw [if_pos h, h]
            · rw [if_neg h])
        have OK4 : Hid (Own64 w4 B1 v3 (i + 1) M.rt) := Lib.hid ((OK3.out.alloc _).keep fun g hg => hg4.block g (by simp; have := (OK3.out.lt hg).1; omega) (fun e => DJ3.out g e.symm hg))
        have DJ4 : Hid (∀ g, v4.ownBlock = some g → v3.ownBlock ≠ some g) := Lib.hid (fun g hg e => by
          rcases hat4 with h | h
          · exact DJ3.out g (h.symm.trans hg) e
          · rw [h] at hg
            injection hg with hg
            have := (OK3.out.lt e).1
            omega)
        clear ho4 hg4 hat4 OK3 OH3 DJ3 K3 c3 hmin hmin2
        go_wp2_with fail
        go_roundw
        case rel => exact ⟨i + 1, by omega, by go_num, OK4, OH4, DJ4, K4⟩
        case measure => simp [intOf]; omega
      · have hi8 : ¬ (i : Int) < 8 := by omega
        have hmin : min i 8 = 8 := by omega
        have hmin2 : min (i + 1) 8 = 8 := by omega
        rw [hmin] at OH3
        clear HRI
        go_wp2_with fail
        go_roundw
        case rel => exact ⟨i + 1, by omega, by go_num, OK3, by rw [hmin2]; exact OH3, DJ3, K3⟩
        case measure => simp [intOf]; omega
    · have hi64 : i = 64 := by omega
      rw [show ((i : Nat) : Int) = 64 by omega]
      subst hi64
      clear hlt hi
      obtain ⟨gk, ck, rfl, hgk, hrk, hck, hckm⟩ := OK.out.rowN (by omega)
      obtain ⟨gh, chh, rfl, hgh, hrh, hch, hchm⟩ := OH.out.rowN (by decide)
      have hgkh : gk ≠ gh := fun e => DJ.out gh rfl (by rw [e]; rfl)
      have hrh : RowN wr gh 8 M.init.get := hrh
      rw [show min 64 8 = 8 from rfl]
      have RK := Lib.hid hrk
      have RH := Lib.hid hrh
      have L2 := Lib.hid (L1.out.trans (K2.out.mono hz1))
      clear OK OH DJ hrk hrh K2
      go_wp2_with fail
      refine (message_any n X wr hX hn).mono ?_
      rintro e w3 ⟨v3, rfl, ho3, hl3⟩
      obtain ⟨MN, hMN, hMN0⟩ : ∃ m, M.msgN n = 64 * m ∧ 0 < m := ⟨M.msgN n / 64, by
        rcases restN_or n with h | h <;> unfold M.msgN <;> rw [h] <;> omega⟩
      have HS : Hid (M.addB M.init (M.msg n X) MN = M.sumS n X) := Lib.hid (by rw [← M.sumS_msg, hMN, Nat.mul_div_cancel_left _ (by omega)])
      have hMNle : MN ≤ 34359738368 := by
        have : M.msgN n ≤ n + 136 := by unfold M.msgN; rcases restN_or n with h | h <;> omega
        omega
      have HY : Hid (∀ j, M.msg n X j < 256) := Lib.hid (M.msg_lt hX)
      generalize M.msg n X = Y at *
      obtain ⟨gm, cm, rfl, hgm, hrm, hcm1, hcm2⟩ := ho3.row (by omega)
      have R0 := Lib.hid hrm
      have K0 := Lib.hid (RK.out.new_ hl3)
      have H0 : Hid (RowN w3 gh 8 (M.addB M.init Y 0).get) := Lib.hid (RH.out.new_ hl3)
      have L3 := Lib.hid (L2.out.trans (hl3.mono L2.out.size))
      have hgmh : gm ≠ gh := by have := RH.out.lt; omega
      rw [hMN] at R0
      rw [hMN]
      clear ho3 hl3 hrm RK RH L2 hgm
      go_wp2_with fail
      go_loopw [8] (fun x wr => ∃ i : Nat, i ≤ MN ∧ x = .int .i64 ((64 * i : Nat) : Int) ∧ Hid (RowN wr gh 8 (M.addB M.init Y i).get) ∧ Hid (RowN wr gk 64 M.rt) ∧ Hid (RowG wr gm (64 * MN) Y) ∧ Hid (Below w.heap.size w wr)) (fun x _ => 64 * MN - (intOf x).toNat)
      case atStart => exact ⟨0, by omega, rfl, H0, K0, R0, L3⟩
      case round =>
        obtain ⟨i, hi, rfl, H1, K1, R1, L4⟩ := hrel
        rename World => w4
        clear H0 K0 R0 L3
        by_cases hlt : i < MN
        · have i2 : ((64 * i : Nat) : Int) < ((64 * MN : Nat) : Int) := by omega
          generalize hB2 : w4.heap.size = B2 at *
          have K2 : Hid (Below B2 w4 w4) := Lib.hid (by rw [← hB2]; exact Below.refl _ _)
          have HB2 := Lib.hid hB2
          clear hB2
          have hW : Hid (∀ t, M.wd (fun j => Y (64 * i + j)) t < 4294967296) := Lib.hid (M.wd_lt fun j => HY.out _)
          have hN : Hid (∀ t, t < 16 → accN (fun j => Y (64 * i + j)) (4 * t) 4 = M.wd (fun j => Y (64 * i + j)) t) := Lib.hid fun t ht => by
            rw [accN_num (fun j => HY.out _), M.wd_low _ t ht]
          have hAL : Hid (∀ t c, c ≤ 4 → accN (fun j => Y (64 * i + j)) (4 * t) c < 4294967296) := Lib.hid fun t c h => accN_le (fun j => HY.out _) _ c h
          have hAS : Hid (∀ t c, accN (fun j => Y (64 * i + j)) (4 * t) (c + 1) = accN (fun j => Y (64 * i + j)) (4 * t) c * 256 + Y (64 * i + 4 * t + c)) := Lib.hid fun t c => by rw [Nat.add_assoc]; rfl
          have hA0 : Hid (∀ t, accN (fun j => Y (64 * i + j)) (4 * t) 0 = 0) := Lib.hid fun t => rfl
          have hWH : Hid (∀ t, 16 ≤ t → M.wd (fun j => Y (64 * i + j)) t = (((M.wd (fun j => Y (64 * i + j)) (t - 16) + M.q0 (M.wd (fun j => Y (64 * i + j)) (t - 15))) + M.wd (fun j => Y (64 * i + j)) (t - 7)) + M.q1 (M.wd (fun j => Y (64 * i + j)) (t - 2))) % 4294967296) := Lib.hid fun t h => M.wd_high _ t h
          have HMX : Hid (M.addB M.init Y (i + 1) = M.mixW (M.addB M.init Y i) (M.wd fun j => Y (64 * i + j))) := Lib.hid rfl
          generalize hA : accN (fun j => Y (64 * i + j)) = A at *
          clear hA
          generalize hD : M.wd (fun j => Y (64 * i + j)) = W at *
          clear hD
          go_wp2_with fail
          go_loopw [9, 10] (fun vw x w2 => ∃ t : Nat, t ≤ 64 ∧ x = .int .i64 t ∧ Hid (Own64 w2 B2 vw t W) ∧ Hid (Below B2 w4 w2)) (fun _ x _ => 64 - (intOf x).toNat)
          case atStart => exact ⟨0, by omega, rfl, Own64.nil _ _ _, K2⟩
          case round =>
            obtain ⟨t, ht, rfl, O2, K3⟩ := hrel
            rename World => w5
            clear K2
            by_cases htl : t < 64
            · have j1 : (t : Int) < 64 := by omega
              by_cases h16 : t < 16
              · have j2 : (t : Int) < 16 := by omega
                clear hWH
                go_wp2_with fail
                go_loopw [11, 12] (fun x s w6 => ∃ c : Nat, c ≤ 4 ∧ s = .int .i64 c ∧ x = .int .u64 ((A (4 * t) c : Nat) : Int) ∧ w6 = w5) (fun _ s _ => 4 - (intOf s).toNat)
                case atStart => exact ⟨0, by omega, rfl, by rw [hA0.out]; rfl, rfl⟩
                case round =>
                  obtain ⟨c, hc, rfl, rfl, hwr⟩ := hrel
                  subst hwr
                  by_cases hcl : c < 4
                  · have k1 : (c : Int) < 4 := by omega
                    have k0 : (0 : Int) ≤ ((64 * i + 4 * t + c : Nat) : Int) := by omega
                    have k2 : ((64 * i + 4 * t + c : Nat) : Int) < ((64 * MN : Nat) : Int) := by omega
                    have k3 : ((64 * i : Nat) : Int) + 4 * (t : Int) + (c : Int) = ((64 * i + 4 * t + c : Nat) : Int) := by omega
                    have c1 : wr.cell? ⟨gm, 64 * i + 4 * t + c, none⟩ = some (.int .u8 ((Y (64 * i + 4 * t + c) : Nat) : Int)) := (R1.out.below K3.out (by have := R1.out.lt; rw [HB2.out] at this; exact this)).cell (by omega)
                    have k4 := HY.out (64 * i + 4 * t + c)
                    have k5 := hAL.out t c (by omega)
                    have k6 := hAL.out t (c + 1) (by omega)
                    rw [hAS.out] at k6
                    go_wp2_with fail
                    go_roundw
                    case rel => exact ⟨c + 1, by omega, by go_num, by rw [hAS.out]; go_num, trivial⟩
                    case measure => simp [intOf]; omega
                  · obtain rfl : c = 4 := by omega
                    clear hcl hc
                    rw [hN.out t h16]
                    clear hN hAL hAS hA0
                    have hzr : B2 ≤ wr.heap.size := by have := K3.out.size; rw [HB2.out] at this; exact this
                    go_wp2_with ((with_reducible refine wpList_push64 rfl (.tmp 76) (.tmp 78) rfl rfl rfl O2.out (by omega) hzr ?_); intro v7 w7 ho7 hg7 hat7; refine of_hid ?_)
                    refine Lib.hid ?_
                    have K7 := Lib.hid (own64_grown K3.out O2.out _ hg7 hzr)
                    have O7 : Hid (Own64 w7 B2 v7 (t + 1) W) := Lib.hid (ho7.congr fun j hj => by
                      unfold upd
                      by_cases h : j = t
                      · rw [if_pos h, h]
                      · rw [if_neg h])
                    clear ho7 hg7 hat7 O2 K3
                    go_wp2_with fail
                    refine ⟨?_, ?measure⟩
                    (repeat apply Exists.intro)
                    refine ⟨?rel, rfl⟩
                    case rel => exact ⟨t + 1, by omega, by go_num, O7, K7⟩
                    case measure => simp [intOf]; omega
              · have j2 : ¬ (t : Int) < 16 := by omega
                clear hN hAL hAS hA0
                obtain ⟨gw, cw, rfl, hgw, hrw, hcw, hcwm⟩ := O2.out.rowN (by omega)
                have n15 : ((t : Int) - 15).toNat = t - 15 := by omega
                have c15 := hrw.cell (j := t - 15) (by omega)
                have c2 := hrw.cell (j := t - 2) (by omega)
                have c16 := hrw.cell (j := t - 16) (by omega)
                have c7 := hrw.cell (j := t - 7) (by omega)
                have l15 := hW.out (t - 15)
                have l2 := hW.out (t - 2)
                have l16 := hW.out (t - 16)
                have l7 := hW.out (t - 7)
                have HRW := Lib.hid hrw
                have HT := Lib.hid (hWH.out t (by omega))
                obtain ⟨a15, h15⟩ : ∃ a, a = W (t - 15) := ⟨_, rfl⟩
                obtain ⟨a2, h2⟩ : ∃ a, a = W (t - 2) := ⟨_, rfl⟩
                obtain ⟨a16, h16'⟩ : ∃ a, a = W (t - 16) := ⟨_, rfl⟩
                obtain ⟨a7, h7⟩ : ∃ a, a = W (t - 7) := ⟨_, rfl⟩
                rw [← h15, ← h2, ← h16', ← h7] at HT
                rw [← h15] at l15 c15
                rw [← h2] at l2 c2
                rw [← h16'] at l16 c16
                rw [← h7] at l7 c7
                have C15 := Lib.hid c15
                have C2 := Lib.hid c2
                have C16 := Lib.hid c16
                have C7 := Lib.hid c7
                clear c15 c2 c16 c7 h15 h2 h16' h7 hrw n15
                go_wp2_with fail
                refine reg24 gw t cw a15 _ C15.out l15 ht (by omega) (fun _ _ d _ _ h => by cases d <;> exact h) ?_
                intro x2 hq2
                have QBx2 : Hid (Qt _ x2) := Lib.hid hq2
                clear hq2
                have O5 := Lib.hid (QBx2.out.own64 O2.out.drew)
                have K5 := Lib.hid (QBx2.out.below K3.out.drew)
                have C2' : Hid (x2.cell? ⟨gw, t - 2, none⟩ = some (.int .u64 ((a2 : Nat) : Int))) := Lib.hid ((QBx2.out.cell _).trans C2.out)
                have C16' : Hid (x2.cell? ⟨gw, t - 16, none⟩ = some (.int .u64 ((a16 : Nat) : Int))) := Lib.hid ((QBx2.out.cell _).trans C16.out)
                have C7' : Hid (x2.cell? ⟨gw, t - 7, none⟩ = some (.int .u64 ((a7 : Nat) : Int))) := Lib.hid ((QBx2.out.cell _).trans C7.out)
                have HRW2 := Lib.hid (QBx2.out.rowN HRW.out.drew)
                clear O2 K3 C2 C16 C7 QBx2 C15 HRW
                go_wp2_with fail
                refine reg25 gw t cw a2 _ C2'.out l2 ht (by omega) (fun _ _ d _ _ h => by cases d <;> exact h) ?_
                intro x4 hq4
                have QBx4 : Hid (Qt _ x4) := Lib.hid hq4
                clear hq4
                have O6 := Lib.hid (QBx4.out.own64 O5.out.drew)
                have K6 := Lib.hid (QBx4.out.below K5.out.drew)
                have C16 : Hid (x4.cell? ⟨gw, t - 16, none⟩ = some (.int .u64 ((a16 : Nat) : Int))) := Lib.hid ((QBx4.out.cell _).trans C16'.out)
                have C7 : Hid (x4.cell? ⟨gw, t - 7, none⟩ = some (.int .u64 ((a7 : Nat) : Int))) := Lib.hid ((QBx4.out.cell _).trans C7'.out)
                have HRW := Lib.hid (QBx4.out.rowN HRW2.out.drew)
                clear O5 K5 C2' C16' C7' QBx4 HRW2
                have m0 := M.q0_lt l15
                have m1 := M.q1_lt l2
                generalize M.q0 a15 = s0 at *
                generalize M.q1 a2 = s1 at *
                have htl2 : t ≤ 64 := ht
                have hgw4 := HRW.out.lt
                go_wp2_with fail
                have O7 := Lib.hid O6.out.drew
                have K7 := Lib.hid K6.out.drew
                have hzr : B2 ≤ x4.drew.heap.size := by have := K7.out.size; rw [HB2.out] at this; exact this
                have HS26 : Hid (x4.cell? ⟨gw, t - 16, none⟩ = some (.int .u64 ((a16 : Nat) : Int)) ∧ x4.cell? ⟨gw, t - 7, none⟩ = some (.int .u64 ((a7 : Nat) : Int))) := Lib.hid ⟨C16.out, C7.out⟩
                refine region_anyT (fun W : World => W.cell? ⟨gw, t - 16, none⟩ = some (.int .u64 ((a16 : Nat) : Int)) ∧ W.cell? ⟨gw, t - 7, none⟩ = some (.int .u64 ((a7 : Nat) : Int))) 18 (by kernel_rfl) ?_
                refine takeT 0 (.move (.tmp 9)) (some 120) none (.slice (some ⟨gw, 0, none⟩) t cw) (by kernel_rfl) (by kernel_rfl) (by kernel_rfl) (fun _ _ _ h => h) (fun o wq e hS => exec_move wq e (by kernel_rfl)) HS26.out ?_
                refine takeT 1 (.move (.tmp 9)) (some 121) none (.slice (some ⟨gw, 0, none⟩) t cw) (by kernel_rfl) (by kernel_rfl) (by kernel_rfl) (fun _ _ _ h => h) (fun o wq e hS => exec_move wq e (by kernel_rfl)) HS26.out ?_
                refine takeT 2 (.move (.tmp 10)) (some 122) none (.int .i64 (t : Int)) (by kernel_rfl) (by kernel_rfl) (by kernel_rfl) (fun _ _ _ h => h) (fun o wq e hS => exec_move wq e (by kernel_rfl)) HS26.out ?_
                refine takeT 3 (.binOp .sub 3 (.tmp 122) (.const (.int .i64 16)) 3) (some 123) none (.int .i64 ((t - 16 : Nat) : Int)) (by kernel_rfl) (by kernel_rfl) (by kernel_rfl) (fun _ _ _ h => h) (fun o wq e hS => exec_bin (u1 := .int .i64 (t : Int)) (u2 := (.int .i64 16)) wq e (by kernel_rfl) (by kernel_rfl) (eqG_int ..) (sub_i64r t 16 16 rfl (by omega) (by omega) _)) HS26.out ?_
                refine takeT 4 (.indexAddr 125 (.tmp 121) (.tmp 123)) (some 124) none (.pointer (some ⟨gw, t - 16, none⟩)) (by kernel_rfl) (by kernel_rfl) (by kernel_rfl) (fun _ _ _ h => h) (fun o wq e hS => exec_index (u1 := .slice (some ⟨gw, 0, none⟩) t cw) (u2 := .int .i64 ((t - 16 : Nat) : Int)) wq e (by kernel_rfl) (by kernel_rfl) (index64 gw t cw (t - 16) _ rfl (by omega) _)) HS26.out ?_
                refine takeT 5 (.load 24 (.tmp 124)) (some 125) none (.int .u64 ((a16 : Nat) : Int)) (by kernel_rfl) (by kernel_rfl) (by kernel_rfl) (fun _ _ _ h => h) (fun o wq e hS => exec_load (x := (.tmp 124)) e (by kernel_rfl) (load64 hS.1)) HS26.out ?_
                refine takeT 6 (.move (.tmp 13)) (some 126) none (.int .u64 ((s0 : Nat) : Int)) (by kernel_rfl) (by kernel_rfl) (by kernel_rfl) (fun _ _ _ h => h) (fun o wq e hS => exec_move wq e (by kernel_rfl)) HS26.out ?_
                refine takeT 7 (.binOp .add 24 (.tmp 125) (.tmp 126) 24) (some 127) none (.int .u64 ((a16 + s0 : Nat) : Int)) (by kernel_rfl) (by kernel_rfl) (by kernel_rfl) (fun _ _ _ h => h) (fun o wq e hS => exec_bin (u1 := .int .u64 ((a16 : Nat) : Int)) (u2 := .int .u64 ((s0 : Nat) : Int)) wq e (by kernel_rfl) (by kernel_rfl) (eqG_int ..) (add_u64r a16 s0 (by omega) _)) HS26.out ?_
                refine takeT 8 (.move (.tmp 9)) (some 128) none (.slice (some ⟨gw, 0, none⟩) t cw) (by kernel_rfl) (by kernel_rfl) (by kernel_rfl) (fun _ _ _ h => h) (fun o wq e hS => exec_move wq e (by kernel_rfl)) HS26.out ?_
                refine takeT 9 (.move (.tmp 10)) (some 129) none (.int .i64 (t : Int)) (by kernel_rfl) (by kernel_rfl) (by kernel_rfl) (fun _ _ _ h => h) (fun o wq e hS => exec_move wq e (by kernel_rfl)) HS26.out ?_
                refine takeT 10 (.binOp .sub 3 (.tmp 129) (.const (.int .i64 7)) 3) (some 130) none (.int .i64 ((t - 7 : Nat) : Int)) (by kernel_rfl) (by kernel_rfl) (by kernel_rfl) (fun _ _ _ h => h) (fun o wq e hS => exec_bin (u1 := .int .i64 (t : Int)) (u2 := (.int .i64 7)) wq e (by kernel_rfl) (by kernel_rfl) (eqG_int ..) (sub_i64r t 7 7 rfl (by omega) (by omega) _)) HS26.out ?_
                refine takeT 11 (.indexAddr 125 (.tmp 128) (.tmp 130)) (some 131) none (.pointer (some ⟨gw, t - 7, none⟩)) (by kernel_rfl) (by kernel_rfl) (by kernel_rfl) (fun _ _ _ h => h) (fun o wq e hS => exec_index (u1 := .slice (some ⟨gw, 0, none⟩) t cw) (u2 := .int .i64 ((t - 7 : Nat) : Int)) wq e (by kernel_rfl) (by kernel_rfl) (index64 gw t cw (t - 7) _ rfl (by omega) _)) HS26.out ?_
                refine takeT 12 (.load 24 (.tmp 131)) (some 132) none (.int .u64 ((a7 : Nat) : Int)) (by kernel_rfl) (by kernel_rfl) (by kernel_rfl) (fun _ _ _ h => h) (fun o wq e hS => exec_load (x := (.tmp 131)) e (by kernel_rfl) (load64 hS.2)) HS26.out ?_
                refine takeT 13 (.binOp .add 24 (.tmp 127) (.tmp 132) 24) (some 133) none (.int .u64 ((a16 + s0 + a7 : Nat) : Int)) (by kernel_rfl) (by kernel_rfl) (by kernel_rfl) (fun _ _ _ h => h) (fun o wq e hS => exec_bin (u1 := .int .u64 ((a16 + s0 : Nat) : Int)) (u2 := .int .u64 ((a7 : Nat) : Int)) wq e (by kernel_rfl) (by kernel_rfl) (eqG_int ..) (add_u64r (a16 + s0) a7 (by omega) _)) HS26.out ?_
                refine takeT 14 (.move (.tmp 14)) (some 134) none (.int .u64 ((s1 : Nat) : Int)) (by kernel_rfl) (by kernel_rfl) (by kernel_rfl) (fun _ _ _ h => h) (fun o wq e hS => exec_move wq e (by kernel_rfl)) HS26.out ?_
                refine takeT 15 (.binOp .add 24 (.tmp 133) (.tmp 134) 24) (some 135) none (.int .u64 ((a16 + s0 + a7 + s1 : Nat) : Int)) (by kernel_rfl) (by kernel_rfl) (by kernel_rfl) (fun _ _ _ h => h) (fun o wq e hS => exec_bin (u1 := .int .u64 ((a16 + s0 + a7 : Nat) : Int)) (u2 := .int .u64 ((s1 : Nat) : Int)) wq e (by kernel_rfl) (by kernel_rfl) (eqG_int ..) (add_u64r (a16 + s0 + a7) s1 (by omega) _)) HS26.out ?_
                refine takeT 16 (.binOp .and 24 (.tmp 135) (.const (.int .u64 4294967295)) 24) (some 136) none (.int .u64 (((a16 + s0 + a7 + s1) % 4294967296 : Nat) : Int)) (by kernel_rfl) (by kernel_rfl) (by kernel_rfl) (fun _ _ _ h => h) (fun o wq e hS => exec_bin (u1 := .int .u64 ((a16 + s0 + a7 + s1 : Nat) : Int)) (u2 := (.int .u64 4294967295)) wq e (by kernel_rfl) (by kernel_rfl) (eqG_int ..) (mask_u64r (a16 + s0 + a7 + s1) (by omega) _)) HS26.out ?_
                refine loneT 17 (.buildSlice 125 1 #[(0, (.tmp 136))]) (some 137) none (by kernel_rfl) (by kernel_rfl) (by kernel_rfl) ?_
                intro o ho hod
                refine wp_val (exec_buildSlice1 (u := .int .u64 (((a16 + s0 + a7 + s1) % 4294967296 : Nat) : Int)) ho (by kernel_rfl) (bs_u64 _ x4.drew)) ?_
                rw [hod]
                clear hod ho
                have hal := (Below.refl x4.heap.size x4.drew).alloc (Nat.le_refl _) (.cells #[.int .u64 (((a16 + s0 + a7 + s1) % 4294967296 : Nat) : Int)] 24)
                refine ⟨fun _ => ⟨(hal.cell (p := ⟨gw, t - 16, none⟩) hgw4).trans C16.out, (hal.cell (p := ⟨gw, t - 7, none⟩) hgw4).trans C7.out⟩, ?_⟩
                clear hal
                refine loneT 18 (.call ⟨.builtin .append, #[(.tmp 120), (.tmp 137)], #[125, 125]⟩) (some 138) none (by kernel_rfl) (by kernel_rfl) (by kernel_rfl) ?_
                intro o ho hod
                refine wp_push64 (w0 := x4.drew) (y := (a16 + s0 + a7 + s1) % 4294967296) (.tmp 120) (.tmp 137) ho (by kernel_rfl) (by kernel_rfl) O7.out (by omega) hzr ?_
                intro v8 w8 ho8 hg8 hat8
                rw [hod]
                clear hod ho
                refine ⟨fun h => absurd h (by omega), ?_⟩
                refine lastT 19 (.assign (.tmp 138)) (some 9) v8 (by kernel_rfl) (by kernel_rfl) (by kernel_rfl) (by omega) (fun o e => exec_assign _ e (by kernel_rfl)) ?_
                simp only [put_some, put_none, List.setIfInBounds_toArray, List.set_cons_succ, List.set_cons_zero]
                clear O6 K6 C16 C7 HS26
                have K8 := Lib.hid (own64_grown K7.out O7.out _ hg8 hzr)
                have O8 : Hid (Own64 w8 B2 v8 (t + 1) W) := Lib.hid (ho8.congr fun j hj => by
                  unfold upd
                  by_cases h : j = t
                  · rw [if_pos h, h, HT.out]
                  · rw [if_neg h])
                clear ho8 hg8 hat8 O7 K7
                go_wp2_with fail
                refine ⟨?_, ?measure⟩
                (repeat apply Exists.intro)
                refine ⟨?rel, rfl⟩
                case rel => exact ⟨t + 1, by omega, by go_num, O8, K8⟩
                case measure => simp [intOf]; omega
            · obtain rfl : t = 64 := by omega
              rw [show ((64 : Nat) : Int) = 64 from rfl]
              clear htl hWH hN hAL hAS hA0 ht
              obtain ⟨gw, cw, rfl, hgw, hrw, hcw, hcwm⟩ := O2.out.rowN (by omega)
              have RW := Lib.hid hrw
              have hghB : gh < B2 := by have := H1.out.lt; rw [HB2.out] at this; exact this
              have hgkB : gk < B2 := by have := K1.out.lt; rw [HB2.out] at this; exact this
              have hgmB : gm < B2 := by have := R1.out.lt; rw [HB2.out] at this; exact this
              have hB5 : B2 ≤ w5.heap.size := by have := K3.out.size; rw [HB2.out] at this; exact this
              have H5 := Lib.hid (H1.out.below K3.out hghB)
              have K5 := Lib.hid (K1.out.below K3.out hgkB)
              have R5 := Lib.hid (R1.out.below K3.out hgmB)
              have hw4s := L4.out.size
              have L5 := Lib.hid (L4.out.trans (K3.out.mono (by rw [← HB2.out]; exact hw4s)))
              have hw5s := L5.out.size
              have hgw5 := hrw.lt
              clear O2 K3 hrw H1 K1 R1 L4
              generalize hss : M.addB M.init Y i = sv at *
              have HSS := Lib.hid hss
              clear hss
              have K0 : Hid (Below w5.heap.size w5 (w5.alloc (.cells #[] 24))) := Lib.hid ((Below.refl _ _).alloc (Nat.le_refl _) _)
              have O0 : Hid (Own64 (w5.alloc (.cells #[] 24)) w5.heap.size (.slice (some ⟨w5.heap.size, 0, none⟩) 0 0) 0 (fun _ => 0)) := Lib.hid (Own64.lit rfl (by unfold maxLen; omega))
              have H0 : Hid (RowN (w5.alloc (.cells #[] 24)) gh 8 sv.get) := Lib.hid (H5.out.alloc _)
              have hs0 : w5.heap.size ≤ (w5.alloc (.cells #[] 24)).heap.size := by simp
              go_wp2_with ((with_reducible refine wpList_append64 rfl (.tmp 139) (.tmp 140) rfl rfl rfl O0.out H0.out (by omega) hs0 ?_); intro v1 y1 ho1 hg1 hat1; refine of_hid ?_)
              refine Lib.hid ?_
              have K1 := Lib.hid (own64_grown' K0.out O0.out hg1 hs0)
              clear hg1 hat1 O0 H0 K0 hs0
              generalize hB3 : w5.heap.size = B3 at *
              have HB3 := Lib.hid hB3
              clear hB3
              have O1 : Hid (Own64 y1 B3 v1 8 (M.rounds sv W 0).get) := Lib.hid (ho1.congr fun j hj => by unfold cat; rw [if_neg (by omega), Nat.sub_zero]; rfl)
              clear ho1
              go_wp2_with fail
              go_loopw [15, 16] (fun v x w2 => ∃ t : Nat, t ≤ 64 ∧ x = .int .i64 t ∧ Hid (Own64 w2 B3 v 8 (M.rounds sv W t).get) ∧ Hid (Below B3 w5 w2)) (fun _ x _ => 64 - (intOf x).toNat)
              case atStart => exact ⟨0, by omega, rfl, O1, K1⟩
              case round =>
                obtain ⟨t, ht, rfl, O2, K2⟩ := hrel
                rename World => w6
                clear O1 K1
                by_cases htl : t < 64
                · obtain ⟨gv, cv, rfl, hgv, hrv, hcv, hcvm⟩ := O2.out.rowN (by omega)
                  have HOK : (M.rounds sv W t).ok := M.rounds_ok (by rw [← HSS.out]; exact M.addB_ok M.init_ok _ _) W t
                  have HN : Hid (M.rounds sv W (t + 1) = M.rnd (M.rounds sv W t) (M.rt t) (W t)) := Lib.hid rfl
                  obtain ⟨T, hT⟩ : ∃ T, T = M.rounds sv W t := ⟨_, rfl⟩
                  rw [← hT] at O2 hrv HOK HN
                  clear hT
                  obtain ⟨za, zb, zc, zd, ze, zf, zg, zh⟩ := T
                  obtain ⟨la, lb, lc, ld, le, lf, lg, lh⟩ := HOK
                  have c0 : w6.cell? ⟨gv, 0, none⟩ = some (.int .u64 ((za : Nat) : Int)) := hrv.cell (by omega)
                  have c1 : w6.cell? ⟨gv, 1, none⟩ = some (.int .u64 ((zb : Nat) : Int)) := hrv.cell (by omega)
                  have c2 : w6.cell? ⟨gv, 2, none⟩ = some (.int .u64 ((zc : Nat) : Int)) := hrv.cell (by omega)
                  have c4 : w6.cell? ⟨gv, 4, none⟩ = some (.int .u64 ((ze : Nat) : Int)) := hrv.cell (by omega)
                  have c5 : w6.cell? ⟨gv, 5, none⟩ = some (.int .u64 ((zf : Nat) : Int)) := hrv.cell (by omega)
                  have c6 : w6.cell? ⟨gv, 6, none⟩ = some (.int .u64 ((zg : Nat) : Int)) := hrv.cell (by omega)
                  have c7 : w6.cell? ⟨gv, 7, none⟩ = some (.int .u64 ((zh : Nat) : Int)) := hrv.cell (by omega)
                  have ck' := (K5.out.below K2.out (by omega)).cell (j := t) htl
                  have cw' := (RW.out.below K2.out (by omega)).cell (j := t) htl
                  have lk := M.rt_lt t htl
                  have lw := hW.out t
                  generalize M.rt t = kt at *
                  generalize W t = wt at *
                  have HRV := Lib.hid hrv
                  have hgv6 := hrv.lt
                  have HSA : Hid (w6.cell? ⟨gv, 4, none⟩ = some (.int .u64 ((ze : Nat) : Int)) ∧ w6.cell? ⟨gv, 5, none⟩ = some (.int .u64 ((zf : Nat) : Int)) ∧ w6.cell? ⟨gv, 6, none⟩ = some (.int .u64 ((zg : Nat) : Int)) ∧ w6.cell? ⟨gv, 7, none⟩ = some (.int .u64 ((zh : Nat) : Int)) ∧ w6.cell? ⟨gk, t, none⟩ = some (.int .u64 ((kt : Nat) : Int)) ∧ w6.cell? ⟨gw, t, none⟩ = some (.int .u64 ((wt : Nat) : Int))) := Lib.hid ⟨c4, c5, c6, c7, ck', cw'⟩
                  have HSB0 : Hid (w6.cell? ⟨gv, 0, none⟩ = some (.int .u64 ((za : Nat) : Int)) ∧ w6.cell? ⟨gv, 1, none⟩ = some (.int .u64 ((zb : Nat) : Int)) ∧ w6.cell? ⟨gv, 2, none⟩ = some (.int .u64 ((zc : Nat) : Int))) := Lib.hid ⟨c0, c1, c2⟩
                  clear c0 c1 c2 c4 c5 c6 c7 ck' cw' hrv
                  have lp1 : M.p1 ze < 4294967296 := M.p1_lt le
                  have lch : M.ch ze zf zg < 4294967296 := M.ch_lt le lf lg
                  have lp0 : M.p0 za < 4294967296 := M.p0_lt la
                  have lmj : M.maj za zb zc < 4294967296 := M.maj_lt la lb lc
                  have i64t : (t : Int) < 64 := by omega
                  go_wp2_with fail
                  refine reg31 gv cv gk ck gw cw t ze zf zg zh kt wt _ HSA.out htl le lf lg lh lk lw (fun _ _ d _ _ h => by cases d <;> exact h) ?_
                  intro x3 hq3
                  have QA3 : Hid (Qt _ x3) := Lib.hid hq3
                  clear hq3
                  have HRV1 := Lib.hid (QA3.out.rowN HRV.out.drew)
                  have KA := Lib.hid (QA3.out.below K2.out.drew)
                  have HSB : Hid (x3.cell? ⟨gv, 0, none⟩ = some (.int .u64 ((za : Nat) : Int)) ∧ x3.cell? ⟨gv, 1, none⟩ = some (.int .u64 ((zb : Nat) : Int)) ∧ x3.cell? ⟨gv, 2, none⟩ = some (.int .u64 ((zc : Nat) : Int))) := Lib.hid ⟨(QA3.out.cell _).trans HSB0.out.1, (QA3.out.cell _).trans HSB0.out.2.1, (QA3.out.cell _).trans HSB0.out.2.2⟩
                  clear HRV K2 O2 HSB0 HSA QA3
                  obtain ⟨t1, ht1⟩ : ∃ t1, t1 = zh + M.p1 ze + M.ch ze zf zg + kt + wt := ⟨_, rfl⟩
                  rw [← ht1]
                  have lt1 : t1 < 21474836480 := by omega
                  have HT1 : Hid (M.t1 ⟨za, zb, zc, zd, ze, zf, zg, zh⟩ kt wt = t1 % 4294967296) := by rw [ht1]; exact Lib.hid rfl
                  clear ht1
                  go_wp2_with fail
                  refine reg32 gv cv za zb zc _ HSB.out la lb lc (fun _ _ d _ _ h => by cases d <;> exact h) ?_
                  intro x6 hq6
                  have QB3 : Hid (Qt _ x6) := Lib.hid hq6
                  clear hq6
                  have HRV2 := Lib.hid (QB3.out.rowN HRV1.out.drew)
                  have KB := Lib.hid (QB3.out.below KA.out.drew)
                  clear HRV1 KA HSB QB3
                  obtain ⟨t2, ht2⟩ : ∃ t2, t2 = M.p0 za + M.maj za zb zc := ⟨_, rfl⟩
                  rw [← ht2]
                  have lt2 : t2 < 8589934592 := by omega
                  have HT2 : Hid (M.t2 ⟨za, zb, zc, zd, ze, zf, zg, zh⟩ = t2 % 4294967296) := by rw [ht2]; exact Lib.hid rfl
                  clear ht2 lp1 lch lp0 lmj lk lw
                  have hx6 : B3 ≤ x6.heap.size := by have := KB.out.size; rw [HB3.out] at this; exact this
                  obtain ⟨t3, ht3⟩ : ∃ t3, t3 = t1 + t2 := ⟨_, rfl⟩
                  obtain ⟨t4, ht4⟩ : ∃ t4, t4 = t3 % 4294967296 := ⟨_, rfl⟩
                  have y1 : IntKind.u64.wrap ((t1 : Int) + (t2 : Int)) = (t3 : Int) := by rw [Mul64.addN, Mul64.wrapN _ (by omega), ht3]
                  have y1' : (t1 : Int) + (t2 : Int) = (t3 : Int) := by omega
                  have y2 : bits .and .u64 (t3 : Int) 4294967295 = (t4 : Int) := by rw [mask_u64 _ (by omega), ht4]
                  have HT3 := Lib.hid ht3
                  have HT4 := Lib.hid ht4
                  have KC : Hid (Below B3 w5 (x6.alloc (.cells #[.int .u64 (t4 : Int)] 24))) := Lib.hid (KB.out.alloc hx6 _)
                  have OC : Hid (Own64 (x6.alloc (.cells #[.int .u64 (t4 : Int)] 24)) B3 (.slice (some ⟨x6.heap.size, 0, none⟩) 1 1) 1 (fun _ => t4)) := Lib.hid ((Own64.lit rfl (by unfold maxLen; omega)).base hx6)
                  have RC : Hid (RowN (x6.alloc (.cells #[.int .u64 (t4 : Int)] 24)) gv 7 (M.S8.get ⟨za, zb, zc, zd, ze, zf, zg, zh⟩)) := Lib.hid ((HRV2.out.part (by omega)).alloc _)
                  have hsC : B3 ≤ (x6.alloc (.cells #[.int .u64 (t4 : Int)] 24)).heap.size := by simp; omega
                  have i7 : (7 : Int) ≤ (cv : Int) := by omega
                  clear ht3 ht4 KB HRV2
                  go_wp2_with ((with_reducible refine wpList_append64 rfl (.tmp 233) (.tmp 235) rfl rfl rfl OC.out RC.out (by omega) hsC ?_); intro v7 x7 ho7 hg7 hat7; refine of_hid ?_)
                  refine Lib.hid ?_
                  have KD := Lib.hid (own64_grown' KC.out OC.out hg7 hsC)
                  rw [show 1 + 7 = 8 from rfl] at ho7
                  obtain ⟨g7, c7, rfl, hg7b, hr7, hc7, hc7m⟩ := ho7.rowN (by omega)
                  have R7 := Lib.hid hr7
                  have d4 : x7.cell? ⟨g7, 4, none⟩ = some (.int .u64 (zd : Int)) := hr7.cell (by omega)
                  have f4 := hr7.frozen 4
                  obtain ⟨t5, ht5⟩ : ∃ t5, t5 = zd + t1 := ⟨_, rfl⟩
                  obtain ⟨t6, ht6⟩ : ∃ t6, t6 = t5 % 4294967296 := ⟨_, rfl⟩
                  have y3 : IntKind.u64.wrap ((zd : Int) + (t1 : Int)) = (t5 : Int) := by rw [Mul64.addN, Mul64.wrapN _ (by omega), ht5]
                  have y3' : (zd : Int) + (t1 : Int) = (t5 : Int) := by omega
                  have y4 : bits .and .u64 (t5 : Int) 4294967295 = (t6 : Int) := by rw [mask_u64 _ (by omega), ht6]
                  have OE : Hid (Own64 (x7.setCell ⟨g7, 4, none⟩ (.int .u64 (t6 : Int))) B3 (.slice (some ⟨g7, 0, none⟩) 8 c7) 8 (M.rounds sv W (t + 1)).get) := Lib.hid ((ho7.set (k := 4) (v := t6) (by omega)).congr fun j hj => by
                    rw [HN.out]
                    exact rnd_get HT1.out HT2.out (by rw [HT4.out, HT3.out]) (by rw [ht6, ht5]) j hj)
                  have KE := Lib.hid (KD.out.setCell (p := ⟨g7, 4, none⟩) hg7b (.int .u64 (t6 : Int)))
                  clear ht5 ht6 ho7 hg7 hat7 OC RC KC y1 y1' y2 HT1 HT2 HT3 HT4 KD hr7 R7 HN
                  go_wp2_with fail
                  go_roundw
                  case rel => exact ⟨t + 1, by omega, by go_num, OE, KE⟩
                  case measure => simp [intOf]; omega
                · obtain rfl : t = 64 := by omega
                  rw [show ((64 : Nat) : Int) = 64 from rfl]
                  clear htl ht
                  obtain ⟨gv, cv, rfl, hgv, hrv, hcv, hcvm⟩ := O2.out.rowN (by omega)
                  have HM : Hid (M.addB M.init Y (i + 1) = M.plus sv (M.rounds sv W 64)) := Lib.hid HMX.out
                  have sok : sv.ok := by rw [← HSS.out]; exact M.addB_ok M.init_ok _ _
                  have LS : ∀ j, sv.get j < 4294967296 := M.S8.get_lt sok
                  have LT : ∀ j, (M.rounds sv W 64).get j < 4294967296 := M.S8.get_lt (M.rounds_ok sok W 64)
                  clear HMX HSS sok
                  generalize M.rounds sv W 64 = T at *
                  have H6 : Hid (RowN w6 gh 8 (plTo sv T 0)) := Lib.hid ((H5.out.below K2.out (by omega)).congr fun j _ => by unfold plTo; rw [if_neg (by omega)])
                  have V6 := Lib.hid hrv
                  have K6 := Lib.hid (K5.out.below K2.out (by omega))
                  have R6 := Lib.hid (R5.out.below K2.out (by omega))
                  have L6 := Lib.hid (L5.out.trans (K2.out.mono (by omega)))
                  have hne1 : gh ≠ gv := by omega
                  have hb0 : w.heap.size ≤ gh := by omega
                  have HL1 := Lib.hid LS
                  have HL2 := Lib.hid LT
                  clear LS LT O2 K2 H5 K5 R5 L5 RW hrv
                  go_wp2_with fail
                  go_loopw [19] (fun x w2 => ∃ j : Nat, j ≤ 8 ∧ x = .int .i64 j ∧ Hid (RowN w2 gh 8 (plTo sv T j)) ∧ Hid (RowN w2 gv 8 T.get) ∧ Hid (RowN w2 gk 64 M.rt) ∧ Hid (RowG w2 gm (64 * MN) Y) ∧ Hid (Below w.heap.size w w2)) (fun x _ => 8 - (intOf x).toNat)
                  case atStart => exact ⟨0, by omega, rfl, H6, V6, K6, R6, L6⟩
                  case round =>
                    obtain ⟨j, hj, rfl, H7, V7, K7, R7, L7⟩ := hrel
                    rename World => w7
                    clear H6 V6 K6 R6 L6
                    by_cases hjl : j < 8
                    · have i8 : (j : Int) < 8 := by omega
                      have lx := HL1.out j
                      have ly := HL2.out j
                      have hx : plTo sv T j j = sv.get j := by unfold plTo; rw [if_neg (by omega)]
                      have cx := H7.out.cell (j := j) hjl
                      have cy := V7.out.cell (j := j) hjl
                      rw [hx] at cx
                      have HP : Hid (∀ c, upd (plTo sv T j) j ((sv.get j + T.get j) % 4294967296) c = plTo sv T (j + 1) c) := Lib.hid (plTo_next sv T j)
                      clear hx
                      generalize sv.get j = xv at *
                      generalize T.get j = yv at *
                      obtain ⟨zv, hzv⟩ : ∃ z, z = (xv + yv) % 4294967296 := ⟨_, rfl⟩
                      rw [← hzv] at HP
                      obtain ⟨qv, hqv⟩ : ∃ q, q = xv + yv := ⟨_, rfl⟩
                      have y1 : IntKind.u64.wrap ((xv : Int) + (yv : Int)) = (qv : Int) := by rw [Mul64.addN, Mul64.wrapN _ (by omega), hqv]
                      have y2 : bits .and .u64 (qv : Int) 4294967295 = (zv : Int) := by rw [mask_u64 _ (by omega), hqv, hzv]
                      have jj : (0 : Int) ≤ (j : Int) := by omega
                      clear hqv hzv
                      go_wp2_with fail
                      go_still_tail 13, (by kernel_rfl)
                      change wpList _ _ _ _ _ w7.drew
                      have H8 := Lib.hid H7.out.drew
                      have V8 := Lib.hid V7.out.drew
                      have K8 := Lib.hid K7.out.drew
                      have R8 := Lib.hid R7.out.drew
                      have L8 := Lib.hid L7.out.drew
                      clear cx cy H7 V7 K7 R7 L7 y1 y2
                      generalize w7.drew = x8 at *
                      have cx := H8.out.cell (j := j) hjl
                      have fx := H8.out.frozen j
                      have H9 := Lib.hid ((H8.out.set (k := j) (v := zv) hjl).congr fun c _ => HP.out c)
                      have V9 := Lib.hid (V8.out.store (p := ⟨gh, j, none⟩) hne1.symm (.int .u64 (zv : Int)))
                      have K9 := Lib.hid (K8.out.store (p := ⟨gh, j, none⟩) hgkh (.int .u64 (zv : Int)))
                      have R9 := Lib.hid (R8.out.far (p := ⟨gh, j, none⟩) hgmh (.int .u64 (zv : Int)))
                      have L9 := Lib.hid (L8.out.setCell (p := ⟨gh, j, none⟩) hb0 (.int .u64 (zv : Int)))
                      clear H8 V8 K8 R8 L8 HP
                      go_wp2_with fail
                      go_roundw
                      case rel => exact ⟨j + 1, by omega, by go_num, H9, V9, K9, R9, L9⟩
                      case measure => simp [intOf]; omega
                    · obtain rfl : j = 8 := by omega
                      rw [show ((8 : Nat) : Int) = 8 from rfl]
                      have H9 : Hid (RowN w7 gh 8 (M.addB M.init Y (i + 1)).get) := Lib.hid (H7.out.congr fun j hj => by rw [HM.out]; exact plTo_all sv T j hj)
                      clear H7 V7 HM HL1 HL2
                      go_wp2_with fail
                      go_roundw
                      case rel => exact ⟨i + 1, by omega, by rw [show ((64 * (i + 1) : Nat) : Int) = 64 * (i : Int) + 64 by omega], H9, K7, R7, L7⟩
                      case measure => simp [intOf]; omega
        · obtain rfl : i = MN := by omega
          clear hlt hi K1 R1
          have LZ : ∀ j, (M.sumS n X).get j < 4294967296 := M.S8.get_lt (M.sumS_ok n X)
          rw [HS.out] at H1
          have HZ := Lib.hid LZ
          have HO : Hid (∀ j, M.sum n X j = M.outB (M.sumS n X) j) := Lib.hid fun j => rfl
          generalize M.sumS n X = sv at *
          generalize hB2 : w4.heap.size = B2 at *
          have K2 : Hid (Below B2 w4 w4) := Lib.hid (by rw [← hB2]; exact Below.refl _ _)
          have HB2 := Lib.hid hB2
          have hgh2 : gh < B2 := by have := H1.out.lt; omega
          have hB2w : w.heap.size ≤ B2 := by have := L4.out.size; omega
          have O0 := Lib.hid (Own8.nil w4 B2 (M.outB sv))
          clear hB2 LZ HS
          go_wp2_with fail
          go_loopw [20, 21] (fun v x w2 => ∃ j : Nat, j ≤ 8 ∧ x = .int .i64 j ∧ Hid (Own8 w2 B2 v (4 * j) (M.outB sv)) ∧ Hid (Below B2 w4 w2)) (fun _ x _ => 8 - (intOf x).toNat)
          case atStart => exact ⟨0, by omega, rfl, O0, K2⟩
          case round =>
            obtain ⟨j, hj, rfl, O1, K3⟩ := hrel
            rename World => w5
            clear O0 K2
            by_cases hjl : j < 8
            · have i8 : (j : Int) < 8 := by omega
              have lz := HZ.out j
              have hcz := (H1.out.below K3.out hgh2).cell (j := j) hjl
              have HC : Hid (∀ c, c < 4 * j + 4 → cat (4 * j) (M.outB sv) (quad ((sv.get j >>> 24) % 256) ((sv.get j >>> 16) % 256) ((sv.get j >>> 8) % 256) (sv.get j % 256)) c = M.outB sv c) := Lib.hid (out_quad sv j)
              generalize sv.get j = zv at *
              have HS : Hid (w5.cell? ⟨gh, j, none⟩ = some (.int .u64 ((zv : Nat) : Int))) := Lib.hid hcz
              have hB5 : B2 ≤ w5.drew.heap.size := by have := K3.out.size; rw [HB2.out] at this; exact this
              have hgh5 : gh < w5.heap.size := Nat.lt_of_lt_of_le hgh2 hB5
              clear hcz
              go_wp2_with fail
              refine region_anyT (fun W : World => W.cell? ⟨gh, j, none⟩ = some (.int .u64 ((zv : Nat) : Int))) 25 (by kernel_rfl) ?_
              refine takeT 0 (.move (.tmp 20)) (some 266) none (u20) (by kernel_rfl) (by kernel_rfl) (by kernel_rfl) (fun _ _ _ h => h) (fun o wq e hS => exec_move wq e (by kernel_rfl)) HS.out ?_
              refine takeT 1 (.move (.tmp 4)) (some 267) none (.slice (some ⟨gh, 0, none⟩) 8 chh) (by kernel_rfl) (by kernel_rfl) (by kernel_rfl) (fun _ _ _ h => h) (fun o wq e hS => exec_move wq e (by kernel_rfl)) HS.out ?_
              refine takeT 2 (.move (.tmp 21)) (some 268) none (.int .i64 (j : Int)) (by kernel_rfl) (by kernel_rfl) (by kernel_rfl) (fun _ _ _ h => h) (fun o wq e hS => exec_move wq e (by kernel_rfl)) HS.out ?_
              refine takeT 3 (.indexAddr 125 (.tmp 267) (.tmp 268)) (some 269) none (.pointer (some ⟨gh, j, none⟩)) (by kernel_rfl) (by kernel_rfl) (by kernel_rfl) (fun _ _ _ h => h) (fun o wq e hS => exec_index (u1 := .slice (some ⟨gh, 0, none⟩) 8 chh) (u2 := .int .i64 (j : Int)) wq e (by kernel_rfl) (by kernel_rfl) (index64 gh 8 chh j _ rfl hjl _)) HS.out ?_
              refine takeT 4 (.load 24 (.tmp 269)) (some 270) none (.int .u64 ((zv : Nat) : Int)) (by kernel_rfl) (by kernel_rfl) (by kernel_rfl) (fun _ _ _ h => h) (fun o wq e hS => exec_load (x := (.tmp 269)) e (by kernel_rfl) (load64 hS)) HS.out ?_
              refine takeT 5 (.binOp .shr 24 (.tmp 270) (.const (.int .u64 24)) 130) (some 271) none (.int .u64 ((zv >>> 24 : Nat) : Int)) (by kernel_rfl) (by kernel_rfl) (by kernel_rfl) (fun _ _ _ h => h) (fun o wq e hS => exec_bin (u1 := .int .u64 ((zv : Nat) : Int)) (u2 := (.int .u64 24)) wq e (by kernel_rfl) (by kernel_rfl) (eqG_int ..) (shr_u64r zv 24 24 rfl (by omega) _)) HS.out ?_
              refine takeT 6 (.convert 24 5 (.tmp 271)) (some 272) none (.int .u8 (((zv >>> 24) % 256 : Nat) : Int)) (by kernel_rfl) (by kernel_rfl) (by kernel_rfl) (fun _ _ _ h => h) (fun o wq e hS => exec_conv (u := .int .u64 ((zv >>> 24 : Nat) : Int)) wq e (by kernel_rfl) (conv_u64_u8 (zv >>> 24) _)) HS.out ?_
              refine takeT 7 (.move (.tmp 4)) (some 273) none (.slice (some ⟨gh, 0, none⟩) 8 chh) (by kernel_rfl) (by kernel_rfl) (by kernel_rfl) (fun _ _ _ h => h) (fun o wq e hS => exec_move wq e (by kernel_rfl)) HS.out ?_
              refine takeT 8 (.move (.tmp 21)) (some 274) none (.int .i64 (j : Int)) (by kernel_rfl) (by kernel_rfl) (by kernel_rfl) (fun _ _ _ h => h) (fun o wq e hS => exec_move wq e (by kernel_rfl)) HS.out ?_
              refine takeT 9 (.indexAddr 125 (.tmp 273) (.tmp 274)) (some 275) none (.pointer (some ⟨gh, j, none⟩)) (by kernel_rfl) (by kernel_rfl) (by kernel_rfl) (fun _ _ _ h => h) (fun o wq e hS => exec_index (u1 := .slice (some ⟨gh, 0, none⟩) 8 chh) (u2 := .int .i64 (j : Int)) wq e (by kernel_rfl) (by kernel_rfl) (index64 gh 8 chh j _ rfl hjl _)) HS.out ?_
              refine takeT 10 (.load 24 (.tmp 275)) (some 276) none (.int .u64 ((zv : Nat) : Int)) (by kernel_rfl) (by kernel_rfl) (by kernel_rfl) (fun _ _ _ h => h) (fun o wq e hS => exec_load (x := (.tmp 275)) e (by kernel_rfl) (load64 hS)) HS.out ?_
              refine takeT 11 (.binOp .shr 24 (.tmp 276) (.const (.int .u64 16)) 130) (some 277) none (.int .u64 ((zv >>> 16 : Nat) : Int)) (by kernel_rfl) (by kernel_rfl) (by kernel_rfl) (fun _ _ _ h => h) (fun o wq e hS => exec_bin (u1 := .int .u64 ((zv : Nat) : Int)) (u2 := (.int .u64 16)) wq e (by kernel_rfl) (by kernel_rfl) (eqG_int ..) (shr_u64r zv 16 16 rfl (by omega) _)) HS.out ?_
              refine takeT 12 (.convert 24 5 (.tmp 277)) (some 278) none (.int .u8 (((zv >>> 16) % 256 : Nat) : Int)) (by kernel_rfl) (by kernel_rfl) (by kernel_rfl) (fun _ _ _ h => h) (fun o wq e hS => exec_conv (u := .int .u64 ((zv >>> 16 : Nat) : Int)) wq e (by kernel_rfl) (conv_u64_u8 (zv >>> 16) _)) HS.out ?_
              refine takeT 13 (.move (.tmp 4)) (some 279) none (.slice (some ⟨gh, 0, none⟩) 8 chh) (by kernel_rfl) (by kernel_rfl) (by kernel_rfl) (fun _ _ _ h => h) (fun o wq e hS => exec_move wq e (by kernel_rfl)) HS.out ?_
              refine takeT 14 (.move (.tmp 21)) (some 280) none (.int .i64 (j : Int)) (by kernel_rfl) (by kernel_rfl) (by kernel_rfl) (fun _ _ _ h => h) (fun o wq e hS => exec_move wq e (by kernel_rfl)) HS.out ?_
              refine takeT 15 (.indexAddr 125 (.tmp 279) (.tmp 280)) (some 281) none (.pointer (some ⟨gh, j, none⟩)) (by kernel_rfl) (by kernel_rfl) (by kernel_rfl) (fun _ _ _ h => h) (fun o wq e hS => exec_index (u1 := .slice (some ⟨gh, 0, none⟩) 8 chh) (u2 := .int .i64 (j : Int)) wq e (by kernel_rfl) (by kernel_rfl) (index64 gh 8 chh j _ rfl hjl _)) HS.out ?_
              refine takeT 16 (.load 24 (.tmp 281)) (some 282) none (.int .u64 ((zv : Nat) : Int)) (by kernel_rfl) (by kernel_rfl) (by kernel_rfl) (fun _ _ _ h => h) (fun o wq e hS => exec_load (x := (.tmp 281)) e (by kernel_rfl) (load64 hS)) HS.out ?_
              refine takeT 17 (.binOp .shr 24 (.tmp 282) (.const (.int .u64 8)) 130) (some 283) none (.int .u64 ((zv >>> 8 : Nat) : Int)) (by kernel_rfl) (by kernel_rfl) (by kernel_rfl) (fun _ _ _ h => h) (fun o wq e hS => exec_bin (u1 := .int .u64 ((zv : Nat) : Int)) (u2 := (.int .u64 8)) wq e (by kernel_rfl) (by kernel_rfl) (eqG_int ..) (shr_u64r zv 8 8 rfl (by omega) _)) HS.out ?_
              refine takeT 18 (.convert 24 5 (.tmp 283)) (some 284) none (.int .u8 (((zv >>> 8) % 256 : Nat) : Int)) (by kernel_rfl) (by kernel_rfl) (by kernel_rfl) (fun _ _ _ h => h) (fun o wq e hS => exec_conv (u := .int .u64 ((zv >>> 8 : Nat) : Int)) wq e (by kernel_rfl) (conv_u64_u8 (zv >>> 8) _)) HS.out ?_
              refine takeT 19 (.move (.tmp 4)) (some 285) none (.slice (some ⟨gh, 0, none⟩) 8 chh) (by kernel_rfl) (by kernel_rfl) (by kernel_rfl) (fun _ _ _ h => h) (fun o wq e hS => exec_move wq e (by kernel_rfl)) HS.out ?_
              refine takeT 20 (.move (.tmp 21)) (some 286) none (.int .i64 (j : Int)) (by kernel_rfl) (by kernel_rfl) (by kernel_rfl) (fun _ _ _ h => h) (fun o wq e hS => exec_move wq e (by kernel_rfl)) HS.out ?_
              refine takeT 21 (.indexAddr 125 (.tmp 285) (.tmp 286)) (some 287) none (.pointer (some ⟨gh, j, none⟩)) (by kernel_rfl) (by kernel_rfl) (by kernel_rfl) (fun _ _ _ h => h) (fun o wq e hS => exec_index (u1 := .slice (some ⟨gh, 0, none⟩) 8 chh) (u2 := .int .i64 (j : Int)) wq e (by kernel_rfl) (by kernel_rfl) (index64 gh 8 chh j _ rfl hjl _)) HS.out ?_
              refine takeT 22 (.load 24 (.tmp 287)) (some 288) none (.int .u64 ((zv : Nat) : Int)) (by kernel_rfl) (by kernel_rfl) (by kernel_rfl) (fun _ _ _ h => h) (fun o wq e hS => exec_load (x := (.tmp 287)) e (by kernel_rfl) (load64 hS)) HS.out ?_
              refine takeT 23 (.convert 24 5 (.tmp 288)) (some 289) none (.int .u8 ((zv % 256 : Nat) : Int)) (by kernel_rfl) (by kernel_rfl) (by kernel_rfl) (fun _ _ _ h => h) (fun o wq e hS => exec_conv (u := .int .u64 ((zv : Nat) : Int)) wq e (by kernel_rfl) (conv_u64_u8 zv _)) HS.out ?_
              refine loneT 24 (.buildSlice 51 4 #[(0, (.tmp 272)), (1, (.tmp 278)), (2, (.tmp 284)), (3, (.tmp 289))]) (some 290) none (by kernel_rfl) (by kernel_rfl) (by kernel_rfl) ?_
              intro o ho hod
              refine wp_val (exec_build4 (u1 := .int .u8 (((zv >>> 24) % 256 : Nat) : Int)) (u2 := .int .u8 (((zv >>> 16) % 256 : Nat) : Int)) (u3 := .int .u8 (((zv >>> 8) % 256 : Nat) : Int)) (u4 := .int .u8 ((zv % 256 : Nat) : Int)) ho (by kernel_rfl) (by kernel_rfl) (by kernel_rfl) (by kernel_rfl) (bs_four _ _ _ _ w5.drew)) ?_
              rw [hod]
              clear hod ho
              have hal := (Below.refl w5.heap.size w5.drew).alloc (Nat.le_refl _) (.cells #[.int .u8 (((zv >>> 24) % 256 : Nat) : Int), .int .u8 (((zv >>> 16) % 256 : Nat) : Int), .int .u8 (((zv >>> 8) % 256 : Nat) : Int), .int .u8 ((zv % 256 : Nat) : Int)] 5)
              have O2 : Hid (Own8 (w5.drew.alloc (.cells #[.int .u8 (((zv >>> 24) % 256 : Nat) : Int), .int .u8 (((zv >>> 16) % 256 : Nat) : Int), .int .u8 (((zv >>> 8) % 256 : Nat) : Int), .int .u8 ((zv % 256 : Nat) : Int)] 5)) B2 u20 (4 * j) (M.outB sv)) := Lib.hid (O1.out.keep fun g hg => Below.heap_alloc w5.drew _ g (O1.out.lt hg).1)
              have K4 := Lib.hid (K3.out.drew.alloc hB5 (.cells #[.int .u8 (((zv >>> 24) % 256 : Nat) : Int), .int .u8 (((zv >>> 16) % 256 : Nat) : Int), .int .u8 (((zv >>> 8) % 256 : Nat) : Int), .int .u8 ((zv % 256 : Nat) : Int)] 5))
              have hB6 : B2 ≤ (w5.drew.alloc (.cells #[.int .u8 (((zv >>> 24) % 256 : Nat) : Int), .int .u8 (((zv >>> 16) % 256 : Nat) : Int), .int .u8 (((zv >>> 8) % 256 : Nat) : Int), .int .u8 ((zv % 256 : Nat) : Int)] 5)).heap.size := by simp; exact Nat.le_succ_of_le hB5
              have RQ := Lib.hid (rdb_quad w5.drew ((zv >>> 24) % 256) ((zv >>> 16) % 256) ((zv >>> 8) % 256) (zv % 256) (Nat.mod_lt _ (by omega)) (Nat.mod_lt _ (by omega)) (Nat.mod_lt _ (by omega)) (Nat.mod_lt _ (by omega)))
              refine ⟨fun _ => (hal.cell (p := ⟨gh, j, none⟩) hgh5).trans HS.out, ?_⟩
              clear hal
              refine loneT 25 (.call ⟨.builtin .append, #[(.tmp 266), (.tmp 290)], #[51, 51]⟩) (some 291) none (by kernel_rfl) (by kernel_rfl) (by kernel_rfl) ?_
              intro o ho hod
              refine wp_append8 (.tmp 266) (.tmp 290) ho (by kernel_rfl) (by kernel_rfl) O2.out RQ.out (fun e => by cases e) (Nat.le_refl _) (by omega) hB6 ?_
              intro v8 w8 ho8 hg8 hat8
              rw [hod]
              clear hod ho
              have K8 := Lib.hid (own_grownR K4.out O2.out hg8 hB6)
              have O8 := Lib.hid (ho8.congr (Y := M.outB sv) fun c hc => HC.out c hc)
              clear ho8 hg8 hat8 RQ
              refine ⟨fun h => absurd h (by omega), ?_⟩
              refine lastT 26 (.assign (.tmp 291)) (some 20) v8 (by kernel_rfl) (by kernel_rfl) (by kernel_rfl) (by omega) (fun o e => exec_assign _ e (by kernel_rfl)) ?_
              simp only [put_some, put_none, List.setIfInBounds_toArray, List.set_cons_succ, List.set_cons_zero]
              clear O1 K3 HS O2 K4 HC
              go_wp2_with fail
              go_roundw
              case rel => exact ⟨j + 1, by omega, by go_num, by rw [show 4 * (j + 1) = 4 * j + 4 by omega]; exact O8, K8⟩
              case measure => simp [intOf]; omega
            · obtain rfl : j = 8 := by omega
              rw [show ((8 : Nat) : Int) = 8 from rfl]
              obtain ⟨A5, c5, rfl, hr5, _, _, _, _⟩ := O1.out.shape (fun j _ => M.outB_lt sv j)
              have k1 := conv_rd (cap := c5) hr5
              have LL := Lib.hid (L4.out.trans (K3.out.mono hB2w))
              have HE : Hid (strB (4 * 8) (M.outB sv) = strB 32 (M.sum n X)) := Lib.hid (strB_congr fun j _ => (HO.out j).symm)
              rw [HE.out] at k1
              clear O1 hr5 K3 L4 HO HE
              go_wp2_with fail
              go_ret
              exact ⟨rfl, LL.out⟩
end Go.Proofs.YthioanenljpclaaGreatDoor
