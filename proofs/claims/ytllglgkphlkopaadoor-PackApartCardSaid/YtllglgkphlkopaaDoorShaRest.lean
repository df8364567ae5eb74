/-
  'sha.rest' by a contract: what stands behind the last whole block of the message. Conditions: fewer than 2^40 bytes.
-/
import Derived.Test.YtllglgkphlkopaaDoorShaAdd
namespace Go.Proofs.YtllglgkphlkopaaDoor
open Go Go.RowKit
set_option linter.unusedVariables false

theorem restTo_zero (n : Nat) (X : Nat → Nat) (j : Nat) (h : j < M.restN n) : (if j = n % 64 then 128 else if j < n % 64 then X (n / 64 * 64 + j) else 0) = M.restTo n X 0 j := by
  unfold M.restTo
  by_cases h1 : j = n % 64
  · rw [if_pos h1, if_neg (by omega), if_pos h1]
  · rw [if_neg h1]
    by_cases h2 : j < n % 64
    · rw [if_pos h2, if_pos h2]
    · rw [if_neg h2, if_neg h2, if_neg h1, if_neg (by omega)]
theorem restN_or (n : Nat) : M.restN n = 64 ∨ M.restN n = 128 := by
  unfold M.restN
  split
  · exact .inr rfl
  · exact .inl rfl
theorem restN_fits (n : Nat) : n % 64 + 9 ≤ M.restN n := by
  unfold M.restN
  split <;> omega
theorem restTo_set (n : Nat) (X : Nat → Nat) (k : Nat) (hk : k < 8) : (rowArr (M.restN n) (M.restTo n X k)).setIfInBounds (M.restN n - 1 - k) (.int .u8 ((((n * 8) >>> (8 * k)) % 256 : Nat) : Int)) = rowArr (M.restN n) (M.restTo n X (k + 1)) := by
  have hf := restN_fits n
  rw [rowArr_set (by omega)]
  refine rowArr_congr fun c hc => ?_
  unfold M.restTo
  by_cases e : c = M.restN n - 1 - k
  · rw [if_pos e, if_neg (by omega), if_neg (by omega), if_pos (by omega), show M.restN n - 1 - c = k by omega]
  · rw [if_neg e]
    by_cases h1 : c < n % 64
    · rw [if_pos h1, if_pos h1]
    · rw [if_neg h1, if_neg h1]
      by_cases h2 : c = n % 64
      · rw [if_pos h2, if_pos h2]
      · rw [if_neg h2, if_neg h2]
        by_cases h3 : M.restN n - k ≤ c ∧ c < M.restN n
        · rw [if_pos h3, if_pos (by omega)]
        · rw [if_neg h3, if_neg (by omega)]

set_option maxRecDepth 100000 in
set_option maxHeartbeats 1600000 in
theorem rest_any (A : Option Addr) (n c B : Nat) (X : Nat → Nat) (w : World) (hx : RdB w B A n X) (hB : B ≤ w.heap.size) (hnc : n ≤ c) (hn : n ≤ 1099511627776) :
    Calls Tryd.prog 24 #[.slice A n c] w fun e w' => e = .returned (.slice (some ⟨w.heap.size, 0, none⟩) (M.restN n) (M.restN n)) ∧ Blk w' w.heap.size 5 (rowArr (M.restN n) (M.rest n X)) ∧ Below w.heap.size w w' := by
  obtain ⟨q, hq⟩ : ∃ q, q = n / 64 := ⟨_, rfl⟩
  obtain ⟨m, hm⟩ : ∃ m, m = n % 64 := ⟨_, rfl⟩
  obtain ⟨N, hN⟩ : ∃ N, N = M.restN n := ⟨_, rfl⟩
  have hNle : N = 64 ∨ N = 128 := hN ▸ restN_or n
  have hfit : m + 9 ≤ N := by rw [hN, hm]; exact restN_fits n
  have hsub := hx.sub (lo := q * 64) hnc
  rw [show n - q * 64 = m by omega] at hsub
  have HS := Lib.hid hsub
  have e1 : (n : Int) / 64 = (q : Int) := by omega
  have hsl := fun w => slice_from A n c (q * 64) ((q : Int) * 64) (by omega) (by omega) w
  rw [show n - q * 64 = m by omega] at hsl
  have HN : Hid (N = M.restN n) := Lib.hid hN
  have HM : Hid (m = n % 64) := Lib.hid hm
  have HQ : Hid (q = n / 64) := Lib.hid hq
  have q64 : q * 64 ≤ n := by omega
  have hNif : N = if 64 < m + 1 + 8 then 128 else 64 := by rw [hN, hm]; rfl
  clear hx hsub hq hN hm
  generalize subA A c (q * 64) = S at *
  by_cases hbig : 64 < m + 1 + 8
  · rw [if_pos hbig] at hNif
    subst hNif
    have t1 : decide ((64 : Int) < (m : Int) + 1 + 8) = true := by simp; omega
    have hmk := fun W => make_bytes 128 (by omega) W 128 rfl
    have hm1 : m < 128 := by omega
    have hm2 : (m : Int) < 128 := by omega
    have BS : Hid (B ≤ w.heap.size) := Lib.hid hB
    clear hB
    go_enter Tryd.func24, Tryd.ntmps24
    have HR0 := Lib.hid (HS.out.below ((Below.refl w.heap.size w).alloc (Nat.le_refl _) (.cells (rowArr 128 fun _ => 0) 5)) BS.out)
    have L0 : Hid (Below w.heap.size w (w.alloc (.cells (rowArr 128 fun _ => 0) 5))) := Lib.hid ((Below.refl _ _).alloc (Nat.le_refl _) _)
    go_wp2_with ((with_reducible refine wpList_copyRd rfl (.tmp 21) (.tmp 22) _ _ rfl Tryd.underlying22 w.heap.size 128 m _ B S rfl rfl (fun _ => 0) (fun j => X (q * 64 + j)) (Blk.new w 5 _) HR0.out (by omega) ?_); intro w2 hb2 ho2 hs2; refine of_hid ?_)
    refine Lib.hid ?_
    have B2 : Hid (Blk w2 w.heap.size 5 (rowArr 128 (fun j => if j < m then X (q * 64 + j) else 0))) := Lib.hid hb2
    have L2 := Lib.hid (L0.out.trans (ho2.below (Nat.le_refl _) (by simp)))
    clear hb2 ho2 hs2 HR0 L0 hmk hsl
    have c0 : w2.cell? ⟨w.heap.size, m, none⟩ = some (.int .u8 (((if m < m then X (q * 64 + m) else 0 : Nat)) : Int)) := (B2.out.cell m).trans (rowArr_get hm1)
    have f0 := B2.out.frozen m
    generalize (if m < m then X (q * 64 + m) else 0) = z0 at c0
    go_wp2_with fail
    have B3 : Hid (Blk (w2.setCell ⟨w.heap.size, m, none⟩ (.int .u8 128)) w.heap.size 5 (rowArr 128 (M.restTo n X 0))) := by
      have h := B2.out.set_ m (.int .u8 (((128 : Nat) : Nat) : Int))
      rw [rowArr_set hm1] at h
      have e : rowArr 128 (M.restTo n X 0) = rowArr 128 (fun j => if j = m then 128 else if j < m then X (q * 64 + j) else 0) := rowArr_congr fun j hj => by
        rw [HM.out, HQ.out]
        exact (restTo_zero n X j (by rw [← HN.out]; exact hj)).symm
      rw [e]
      exact h
    have L3 := Lib.hid (L2.out.setCell (p := ⟨w.heap.size, m, none⟩) (Nat.le_refl _) (.int .u8 128))
    clear B2 L2 c0 f0
    generalize w2.setCell ⟨w.heap.size, m, none⟩ (.int .u8 128) = w3 at *
    generalize hh : w.heap.size = h at *
    have HH := Lib.hid hh
    clear hh
    go_loopw [7, 32] (fun _ x wr => ∃ k : Nat, k ≤ 8 ∧ x = .int .i64 k ∧ Hid (Blk wr h 5 (rowArr 128 (M.restTo n X k))) ∧ Hid (Below h w wr)) (fun _ x _ => 8 - (intOf x).toNat)
    case atStart => exact ⟨0, by omega, rfl, B3, L3⟩
    case round =>
      obtain ⟨k, hk, rfl, B4, L4⟩ := hrel
      clear B3 L3
      by_cases hlt : k < 8
      · have i1 : (0 : Int) ≤ (k : Int) := by omega
        have i2 : (k : Int) < 8 := by omega
        have a1 : IntKind.i64.wrap (127 - (k : Int)) = 127 - (k : Int) := by rw [IntKind.wrap_i64]; omega
        have a2 : (k : Int) ≤ 127 := by omega
        have a3 : 127 - (k : Int) < 128 := by omega
        have a4 : (127 - (k : Int)).toNat = 127 - k := by omega
        have a5 : min (8 * k) 64 = 8 * k := by omega
        have c1 : wr.cell? ⟨h, 127 - k, none⟩ = some (.int .u8 ((M.restTo n X k (127 - k) : Nat) : Int)) := (B4.out.cell _).trans (rowArr_get (by omega))
        have f1 := B4.out.frozen (127 - k)
        go_wp2_with fail
        have ev : (n : Int) * 8 / 2 ^ (8 * k) % 256 = ((((n * 8) >>> (8 * k)) % 256 : Nat) : Int) := by
          rw [Nat.shiftRight_eq_div_pow, Int.natCast_emod, Int.natCast_ediv, Int.natCast_pow, Int.natCast_mul]; rfl
        rw [ev]
        have B5 : Hid (Blk (wr.setCell ⟨h, 127 - k, none⟩ (.int .u8 ((((n * 8) >>> (8 * k)) % 256 : Nat) : Int))) h 5 (rowArr 128 (M.restTo n X (k + 1)))) := by
          have h5 := restTo_set n X k hlt
          rw [← HN.out] at h5
          have h6 := B4.out.set_ (127 - k) (.int .u8 ((((n * 8) >>> (8 * k)) % 256 : Nat) : Int))
          rw [h5] at h6
          exact Lib.hid h6
        have L5 := Lib.hid (L4.out.setCell (p := ⟨h, 127 - k, none⟩) (Nat.le_refl _) (.int .u8 ((((n * 8) >>> (8 * k)) % 256 : Nat) : Int)))
        clear B4 L4 c1 f1
        go_roundw
        case rel => exact ⟨k + 1, by omega, by go_num, B5, L5⟩
        case measure => simp [intOf]; omega
      · obtain rfl : k = 8 := by omega
        clear hlt
        go_wp2_with fail
        go_ret
        rw [HH.out, ← HN.out]
        exact ⟨rfl, B4.out, L4.out⟩
  · rw [if_neg hbig] at hNif
    subst hNif
    have t1 : decide ((64 : Int) < (m : Int) + 1 + 8) = false := by simp; omega
    have hmk := fun W => make_bytes 64 (by omega) W 64 rfl
    have hm1 : m < 64 := by omega
    have hm2 : (m : Int) < 64 := by omega
    have BS : Hid (B ≤ w.heap.size) := Lib.hid hB
    clear hB
    go_enter Tryd.func24, Tryd.ntmps24
    have HR0 := Lib.hid (HS.out.below ((Below.refl w.heap.size w).alloc (Nat.le_refl _) (.cells (rowArr 64 fun _ => 0) 5)) BS.out)
    have L0 : Hid (Below w.heap.size w (w.alloc (.cells (rowArr 64 fun _ => 0) 5))) := Lib.hid ((Below.refl _ _).alloc (Nat.le_refl _) _)
    go_wp2_with ((with_reducible refine wpList_copyRd rfl (.tmp 21) (.tmp 22) _ _ rfl Tryd.underlying22 w.heap.size 64 m _ B S rfl rfl (fun _ => 0) (fun j => X (q * 64 + j)) (Blk.new w 5 _) HR0.out (by omega) ?_); intro w2 hb2 ho2 hs2; refine of_hid ?_)
    refine Lib.hid ?_
    have B2 : Hid (Blk w2 w.heap.size 5 (rowArr 64 (fun j => if j < m then X (q * 64 + j) else 0))) := Lib.hid hb2
    have L2 := Lib.hid (L0.out.trans (ho2.below (Nat.le_refl _) (by simp)))
    clear hb2 ho2 hs2 HR0 L0 hmk hsl
    have c0 : w2.cell? ⟨w.heap.size, m, none⟩ = some (.int .u8 (((if m < m then X (q * 64 + m) else 0 : Nat)) : Int)) := (B2.out.cell m).trans (rowArr_get hm1)
    have f0 := B2.out.frozen m
    generalize (if m < m then X (q * 64 + m) else 0) = z0 at c0
    go_wp2_with fail
    have B3 : Hid (Blk (w2.setCell ⟨w.heap.size, m, none⟩ (.int .u8 128)) w.heap.size 5 (rowArr 64 (M.restTo n X 0))) := by
      have h := B2.out.set_ m (.int .u8 (((128 : Nat) : Nat) : Int))
      rw [rowArr_set hm1] at h
      have e : rowArr 64 (M.restTo n X 0) = rowArr 64 (fun j => if j = m then 128 else if j < m then X (q * 64 + j) else 0) := rowArr_congr fun j hj => by
        rw [HM.out, HQ.out]
        exact (restTo_zero n X j (by rw [← HN.out]; exact hj)).symm
      rw [e]
      exact h
    have L3 := Lib.hid (L2.out.setCell (p := ⟨w.heap.size, m, none⟩) (Nat.le_refl _) (.int .u8 128))
    clear B2 L2 c0 f0
    generalize w2.setCell ⟨w.heap.size, m, none⟩ (.int .u8 128) = w3 at *
    generalize hh : w.heap.size = h at *
    have HH := Lib.hid hh
    clear hh
    go_loopw [7, 32] (fun _ x wr => ∃ k : Nat, k ≤ 8 ∧ x = .int .i64 k ∧ Hid (Blk wr h 5 (rowArr 64 (M.restTo n X k))) ∧ Hid (Below h w wr)) (fun _ x _ => 8 - (intOf x).toNat)
    case atStart => exact ⟨0, by omega, rfl, B3, L3⟩
    case round =>
      obtain ⟨k, hk, rfl, B4, L4⟩ := hrel
      clear B3 L3
      by_cases hlt : k < 8
      · have i1 : (0 : Int) ≤ (k : Int) := by omega
        have i2 : (k : Int) < 8 := by omega
        have a1 : IntKind.i64.wrap (63 - (k : Int)) = 63 - (k : Int) := by rw [IntKind.wrap_i64]; omega
        have a2 : (k : Int) ≤ 63 := by omega
        have a3 : 63 - (k : Int) < 64 := by omega
        have a4 : (63 - (k : Int)).toNat = 63 - k := by omega
        have a5 : min (8 * k) 64 = 8 * k := by omega
        have c1 : wr.cell? ⟨h, 63 - k, none⟩ = some (.int .u8 ((M.restTo n X k (63 - k) : Nat) : Int)) := (B4.out.cell _).trans (rowArr_get (by omega))
        have f1 := B4.out.frozen (63 - k)
        go_wp2_with fail
        have ev : (n : Int) * 8 / 2 ^ (8 * k) % 256 = ((((n * 8) >>> (8 * k)) % 256 : Nat) : Int) := by
          rw [Nat.shiftRight_eq_div_pow, Int.natCast_emod, Int.natCast_ediv, Int.natCast_pow, Int.natCast_mul]; rfl
        rw [ev]
        have B5 : Hid (Blk (wr.setCell ⟨h, 63 - k, none⟩ (.int .u8 ((((n * 8) >>> (8 * k)) % 256 : Nat) : Int))) h 5 (rowArr 64 (M.restTo n X (k + 1)))) := by
          have h5 := restTo_set n X k hlt
          rw [← HN.out] at h5
          have h6 := B4.out.set_ (63 - k) (.int .u8 ((((n * 8) >>> (8 * k)) % 256 : Nat) : Int))
          rw [h5] at h6
          exact Lib.hid h6
        have L5 := Lib.hid (L4.out.setCell (p := ⟨h, 63 - k, none⟩) (Nat.le_refl _) (.int .u8 ((((n * 8) >>> (8 * k)) % 256 : Nat) : Int)))
        clear B4 L4 c1 f1
        go_roundw
        case rel => exact ⟨k + 1, by omega, by go_num, B5, L5⟩
        case measure => simp [intOf]; omega
      · obtain rfl : k = 8 := by omega
        clear hlt
        go_wp2_with fail
        go_ret
        rw [HH.out, ← HN.out]
        exact ⟨rfl, B4.out, L4.out⟩
end Go.Proofs.YtllglgkphlkopaaDoor
