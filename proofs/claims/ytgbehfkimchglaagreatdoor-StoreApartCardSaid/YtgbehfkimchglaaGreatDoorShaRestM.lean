/-
 'sha.begin' and '(*sha.state).add' by contracts: the whole blocks of some bytes are taken into the state. Conditions: the bytes lie apart from the state; the table of roots reads as it was laid.
-/
import Derived.Test.YtgbehfkimchglaaGreatDoorShaMix
import Derived.Test.YtgbehfkimchglaaGreatDoorStoKM
namespace Go.Proofs.YtgbehfkimchglaaGreatDoor
set_option maxRecDepth 100000
open Go.RowKit
set_option linter.unusedVariables false
theorem RdB.place {w : World} {B n : Nat} {A : Option Addr} {X : Nat → Nat} (h : RdB w B A n X) (hn : 0 < n) : ∃ g o, A = some ⟨g, o, none⟩ ∧ g < B ∧ RdA w g o n X := by
 obtain ⟨g, o, rfl, hg, _, _⟩ := h 0 hn
 refine ⟨g, o, rfl, hg, fun j hj => ?_⟩
 obtain ⟨g', o', e, _, h3, _⟩ := h j hj
 injection e with e
 injection e with e1 e2
 subst e1; subst e2
 exact h3
theorem RdA.only {w w' : World} {g o n b : Nat} {X : Nat → Nat} (h : RdA w g o n X) (ho : Only b w w') (hne : g ≠ b) : RdA w' g o n X := fun j hj => ho.cell (h j hj) hne
theorem RdA.part {w : World} {g o n : Nat} {X : Nat → Nat} (h : RdA w g o n X) (s m : Nat) (hs : s + m ≤ n) : RdA w g (o + s) m (fun j => X (s + j)) := fun j hj => by
 rw [Nat.add_assoc]
 exact h (s + j) (by omega)
theorem isize_state : (Tryz.prog.info? 194).map (·.size) = some 8 := by kernel_rfl
theorem init_words : (#[.int .u32 1779033703, .int .u32 3144134277, .int .u32 1013904242, .int .u32 2773480762, .int .u32 1359893119, .int .u32 2600822924, .int .u32 528734635, .int .u32 1541459225] : Array Value) = wArr 8 M.init.get := by kernel_rfl
set_option maxHeartbeats 400000 in
theorem begin_any (w : World) : Calls Tryz.prog 113 #[] w fun e w' => e = .returned (.agg (wArr 8 M.init.get)) ∧ Below w.heap.size w w' := by
 have hz : ∀ w : World, (Sem.run Tryz.prog (zeroValue 194) w) = .ok (.agg #[.int .u32 0, .int .u32 0, .int .u32 0, .int .u32 0, .int .u32 0, .int .u32 0, .int .u32 0, .int .u32 0]) w := fun w => by kernel_rfl
 go_enter Tryz.func113, Tryz.ntmps113
 go_wp2_with fail
 rw [init_words]
 have HV := Lib.hid (loadVar_blk (Blk.new w 194 (wArr 8 M.init.get)) Tryz.underlying194 rfl (by rw [wArr_size]; exact isize_state))
 have L0 := Lib.hid ((Below.refl _ _).alloc (Nat.le_refl _) (.cells (wArr 8 M.init.get) 194) : Below w.heap.size w _)
 refine bodyPost_ret (results_cell rfl rfl HV.out) rfl ?_
 exact ⟨rfl, L0.out⟩
set_option maxRecDepth 100000 in
set_option maxHeartbeats 1600000 in
theorem add_any (b : Nat) (s : M.S8) (A : Option Addr) (n c : Nat) (X : Nat → Nat) (B : Nat) (w : World) (hb : Blk w b 194 (wArr 8 s.get)) (hs : s.ok) (hx : RdB w B A n X) (hX : ∀ j, X j < 256) (hB : B ≤ w.heap.size) (hne : ∀ g o, 0 < n → A = some ⟨g, o, none⟩ → g ≠ b)
  (hnc : n ≤ c) (hcm : c ≤ maxLen) (hl : Laid w) (hb0 : 0 < b) :
  Calls Tryz.prog 114 #[.pointer (some ⟨b, 0, none⟩), .slice A n c] w fun e w' => e = .returned (.tuple #[]) ∧ Blk w' b 194 (wArr 8 (M.addB s X (n / 64)).get) ∧ Only b w w' := by
 unfold maxLen at hcm
 have hA : Hid (∃ g o, g ≠ b ∧ (0 < n → A = some ⟨g, o, none⟩ ∧ g < w.heap.size ∧ RdA w g o n X)) := by
  by_cases hn : 0 < n
  ·obtain ⟨g, o, rfl, h2, h3⟩ := hx.place hn
   exact ⟨g, o, hne _ _ hn rfl, fun _ => ⟨rfl, by omega, h3⟩⟩
  ·exact ⟨b + 1, 0, by omega, fun h => absurd h hn⟩
 obtain ⟨g, o, hgb, hA⟩ := hA
 have HA := Lib.hid hA
 have B0 : Hid (Blk w b 194 (wArr 8 (M.addB s X 0).get)) := hb
 have L0 := Lib.hid hl
 have hbl := hb.lt
 clear hA hx hne hb hl
 go_enter Tryz.func114, Tryz.ntmps114
 go_wp2_with fail
 go_loopw [1] (fun v wr => ∃ (k m d : Nat) (A' : Option Addr), v = .slice A' m d ∧ m + 64 * k = n ∧ d + 64 * k = c ∧ (0 < m → A' = some ⟨g, o + 64 * k, none⟩) ∧ Hid (Blk wr b 194 (wArr 8 (M.addB s X k).get)) ∧ Hid (Laid wr) ∧ Hid (Only b w wr)) (fun v _ => match v with | .slice _ m _ => m | _ => 0)
 case atStart => exact ⟨0, n, c, A, rfl, by omega, by omega, fun h => (HA.out h).1, B0, L0, Only.refl b w⟩
 case round =>
  obtain ⟨k, m, d, A', rfl, hm, hd, hA', B1, L1, O1⟩ := hrel
  clear B0 L0
  by_cases hge : 64 ≤ m
  ·obtain ⟨rfl⟩ := hA' (by omega)
   have t1 : (64 : Int) ≤ (m : Int) := by omega
   have t2 : (64 : Int) ≤ (d : Int) := by omega
   have hge' : 64 ≤ d := by omega
   obtain ⟨_, hgw, hrd⟩ := HA.out (by omega)
   have HR := Lib.hid ((hrd.only O1.out hgb).part (64 * k) 64 (by omega))
   have hgs : g < wr.heap.size := Nat.lt_of_lt_of_le hgw O1.out.size
   clear hrd hgw hA'
   go_wp2_with fail
   refine (spread_any g (o + 64 * k) d (fun j => X (64 * k + j)) wr (fun j => hX _) hge' (by unfold maxLen; omega) hgs HR.out).mono ?_
   rintro e w2 ⟨rfl, hb2⟩
   have B2 := Lib.hid (B1.out.below hb2 B1.out.lt)
   have L2 := Lib.hid (L1.out.below hb2 L1.out.pos)
   have O2 := Lib.hid (O1.out.trans (Only.of_below hb2 b))
   clear hb2 B1 L1 O1 HR
   go_wp2_with fail
   refine (mix_any b (M.addB s X k) (M.wd fun j => X (64 * k + j)) w2 B2.out (M.addB_ok hs X k) (fun t _ => M.wd_lt (fun j => hX _) t) L2.out hb0).mono ?_
   rintro e w3 ⟨rfl, hb3, ho3⟩
   have B3 : Hid (Blk w3 b 194 (wArr 8 (M.addB s X (k + 1)).get)) := hb3
   have L3 := Lib.hid (L2.out.only ho3 hb0)
   have O3 := Lib.hid (O2.out.trans ho3)
   clear hb3 ho3 B2 L2 O2
   go_wp2_with fail
   refine ⟨⟨k + 1, m - 64, d - 64, _, rfl, by omega, by omega, fun h => ?_, B3, L3, O3⟩, ?_⟩
   ·rw [if_neg (by omega), show o + 64 * (k + 1) = o + 64 * k + 64 by omega]
   ·show m - 64 < m; omega
  ·have hk : k = n / 64 := by omega
   have t1 : (m : Int) < 64 := by omega
   clear hge
   go_wp2_with fail
   go_end0
   rw [← hk]
   exact ⟨rfl, B1.out, O1.out⟩
end Go.Proofs.YtgbehfkimchglaaGreatDoor
namespace Go.Proofs.YtgbehfkimchglaaGreatDoor
set_option maxRecDepth 100000
open Go Go.RowKit
set_option linter.unusedVariables false
theorem restTo_zero (n : Nat) (X : Nat → Nat) (j : Nat) (h : j < M.restN n) : (if j = n % 64 then 128 else if j < n % 64 then X (n / 64 * 64 + j) else 0) = M.restTo n X 0 j := by
 unfold M.restTo
 by_cases h1 : j = n % 64
 ·rw [if_pos h1, if_neg (by omega), if_pos h1]
 ·rw [if_neg h1]
  by_cases h2 : j < n % 64
  ·rw [if_pos h2, if_pos h2]
  ·rw [if_neg h2, if_neg h2, if_neg h1, if_neg (by omega)]
theorem restN_or (n : Nat) : M.restN n = 64 ∨ M.restN n = 128 := by
 unfold M.restN
 split
 ·exact .inr rfl
 ·exact .inl rfl
theorem restN_fits (n : Nat) : n % 64 + 9 ≤ M.restN n := by
 unfold M.restN
 split <;> omega
theorem restTo_set (n : Nat) (X : Nat → Nat) (k : Nat) (hk : k < 8) : (rowArr (M.restN n) (M.restTo n X k)).setIfInBounds (M.restN n - 1 - k) (.int .u8 ((((n * 8) >>> (8 * k)) % 256 : Nat) : Int)) = rowArr (M.restN n) (M.restTo n X (k + 1)) := by
 have hf := restN_fits n
 rw [rowArr_set (by omega)]
 refine rowArr_congr fun c hc => ?_
 unfold M.restTo
 by_cases e : c = M.restN n - 1 - k
 ·rw [if_pos e, if_neg (by omega), if_neg (by omega), if_pos (by omega), show M.restN n - 1 - c = k by omega]
 ·rw [if_neg e]
  by_cases h1 : c < n % 64
  ·rw [if_pos h1, if_pos h1]
  ·rw [if_neg h1, if_neg h1]
   by_cases h2 : c = n % 64
   ·rw [if_pos h2, if_pos h2]
   ·rw [if_neg h2, if_neg h2]
    by_cases h3 : M.restN n - k ≤ c ∧ c < M.restN n
    ·rw [if_pos h3, if_pos (by omega)]
    ·rw [if_neg h3, if_neg (by omega)]
set_option maxRecDepth 100000 in
set_option maxHeartbeats 1600000 in
theorem rest_any (A : Option Addr) (n c B : Nat) (X : Nat → Nat) (w : World) (hx : RdB w B A n X) (hB : B ≤ w.heap.size) (hnc : n ≤ c) (hn : n ≤ 1099511627776) :
  Calls Tryz.prog 115 #[.slice A n c] w fun e w' => e = .returned (.slice (some ⟨w.heap.size, 0, none⟩) (M.restN n) (M.restN n)) ∧ Blk w' w.heap.size 5 (rowArr (M.restN n) (M.rest n X)) ∧ Below w.heap.size w w' := by
 obtain ⟨q, hq⟩ : ∃ q, q = n / 64 := ⟨_, rfl⟩
 obtain ⟨m, hm⟩ : ∃ m, m = n % 64 := ⟨_, rfl⟩
 obtain ⟨N, hN⟩ : ∃ N, N = M.restN n := ⟨_, rfl⟩
 have hNle : N = 64 ∨ N = 128 := hN ▸ restN_or n
 have hfit : m + 9 ≤ N := by rw [hN, hm]; exact restN_fits n
 have hsub := hx.sub (lo := q * 64) hnc
 rw [show n - q * 64 = m by omega] at hsub
 have HS := Lib.hid hsub
 have e1 : (n : Int) / 64 = (q : Int) := by omega
 have hsl := fun w => slice_from A n c (q * 64) ((q : Int) * 64) (by omega) (by omega) w
 rw [show n - q * 64 = m by omega] at hsl
 have HN : Hid (N = M.restN n) := Lib.hid hN
 have HM : Hid (m = n % 64) := Lib.hid hm
 have HQ : Hid (q = n / 64) := Lib.hid hq
 have q64 : q * 64 ≤ n := by omega
 have hNif : N = if 64 < m + 1 + 8 then 128 else 64 := by rw [hN, hm]; rfl
 clear hx hsub hq hN hm
 generalize subA A c (q * 64) = S at *
 by_cases hbig : 64 < m + 1 + 8
 ·rw [if_pos hbig] at hNif
  subst hNif
  have t1 : decide ((64 : Int) < (m : Int) + 1 + 8) = true := by simp; omega
  have hmk := fun W => make_bytes 128 (by omega) W 128 rfl
  have hm1 : m < 128 := by omega
  have hm2 : (m : Int) < 128 := by omega
  have BS : Hid (B ≤ w.heap.size) := Lib.hid hB
  clear hB
  go_enter Tryz.func115, Tryz.ntmps115
  have HR0 := Lib.hid (HS.out.below ((Below.refl w.heap.size w).alloc (Nat.le_refl _) (.cells (rowArr 128 fun _ => 0) 5)) BS.out)
  have L0 : Hid (Below w.heap.size w (w.alloc (.cells (rowArr 128 fun _ => 0) 5))) := Lib.hid ((Below.refl _ _).alloc (Nat.le_refl _) _)
  go_wp2_with ((with_reducible refine wpList_copyRd rfl (.tmp 21) (.tmp 22) _ _ rfl Tryz.underlying76 w.heap.size 128 m _ B S rfl rfl (fun _ => 0) (fun j => X (q * 64 + j)) (Blk.new w 5 _) HR0.out (by omega) ?_); intro w2 hb2 ho2 hs2; refine of_hid ?_)
  refine Lib.hid ?_
  have B2 : Hid (Blk w2 w.heap.size 5 (rowArr 128 (fun j => if j < m then X (q * 64 + j) else 0))) := Lib.hid hb2
  have L2 := Lib.hid (L0.out.trans (ho2.below (Nat.le_refl _) (by simp)))
  clear hb2 ho2 hs2 HR0 L0 hmk hsl
  have c0 : w2.cell? ⟨w.heap.size, m, none⟩ = some (.int .u8 (((if m < m then X (q * 64 + m) else 0 : Nat)) : Int)) := (B2.out.cell m).trans (rowArr_get hm1)
  have f0 := B2.out.frozen m
  generalize (if m < m then X (q * 64 + m) else 0) = z0 at c0
  go_wp2_with fail
  have B3 : Hid (Blk (w2.setCell ⟨w.heap.size, m, none⟩ (.int .u8 128)) w.heap.size 5 (rowArr 128 (M.restTo n X 0))) := by
   have h := B2.out.set_ m (.int .u8 (((128 : Nat) : Nat) : Int))
   rw [rowArr_set hm1] at h
   have e : rowArr 128 (M.restTo n X 0) = rowArr 128 (fun j => if j = m then 128 else if j < m then X (q * 64 + j) else 0) := rowArr_congr fun j hj => by
    rw [HM.out, HQ.out]
    exact (restTo_zero n X j (by rw [← HN.out]; exact hj)).symm
   rw [e]
   exact h
  have L3 := Lib.hid (L2.out.setCell (p := ⟨w.heap.size, m, none⟩) (Nat.le_refl _) (.int .u8 128))
  clear B2 L2 c0 f0
  generalize w2.setCell ⟨w.heap.size, m, none⟩ (.int .u8 128) = w3 at *
  generalize hh : w.heap.size = h at *
  have HH := Lib.hid hh
  clear hh
  go_loopw [7, 32] (fun _ x wr => ∃ k : Nat, k ≤ 8 ∧ x = .int .i64 k ∧ Hid (Blk wr h 5 (rowArr 128 (M.restTo n X k))) ∧ Hid (Below h w wr)) (fun _ x _ => 8 - (intOf x).toNat)
  case atStart => exact ⟨0, by omega, rfl, B3, L3⟩
  case round =>
   obtain ⟨k, hk, rfl, B4, L4⟩ := hrel
   clear B3 L3
   by_cases hlt : k < 8
   ·have i1 : (0 : Int) ≤ (k : Int) := by omega
    have i2 : (k : Int) < 8 := by omega
    have a1 : IntKind.i64.wrap (127 - (k : Int)) = 127 - (k : Int) := by rw [IntKind.wrap_i64]; omega
    have a2 : (k : Int) ≤ 127 := by omega
    have a3 : 127 - (k : Int) < 128 := by omega
    have a4 : (127 - (k : Int)).toNat = 127 - k := by omega
    have a5 : min (8 * k) 64 = 8 * k := by omega
    have c1 : wr.cell? ⟨h, 127 - k, none⟩ = some (.int .u8 ((M.restTo n X k (127 - k) : Nat) : Int)) := (B4.out.cell _).trans (rowArr_get (by omega))
    have f1 := B4.out.frozen (127 - k)
    go_wp2_with fail
    have ev : (n : Int) * 8 / 2 ^ (8 * k) % 256 = ((((n * 8) >>> (8 * k)) % 256 : Nat) : Int) := by
     rw [Nat.shiftRight_eq_div_pow, Int.natCast_emod, Int.natCast_ediv, Int.natCast_pow, Int.natCast_mul]; rfl
    rw [ev]
    have B5 : Hid (Blk (wr.setCell ⟨h, 127 - k, none⟩ (.int .u8 ((((n * 8) >>> (8 * k)) % 256 : Nat) : Int))) h 5 (rowArr 128 (M.restTo n X (k + 1)))) := by
     have h5 := restTo_set n X k hlt
     rw [← HN.out] at h5
     have h6 := B4.out.set_ (127 - k) (.int .u8 ((((n * 8) >>> (8 * k)) % 256 : Nat) : Int))
     rw [h5] at h6
     exact Lib.hid h6
    have L5 := Lib.hid (L4.out.setCell (p := ⟨h, 127 - k, none⟩) (Nat.le_refl _) (.int .u8 ((((n * 8) >>> (8 * k)) % 256 : Nat) : Int)))
    clear B4 L4 c1 f1
    go_roundw
    case rel => exact ⟨k + 1, by omega, by go_num, B5, L5⟩
    case measure => simp [intOf]; omega
   ·obtain rfl : k = 8 := by omega
    clear hlt
    go_wp2_with fail
    go_ret
    rw [HH.out, ← HN.out]
    exact ⟨rfl, B4.out, L4.out⟩
 ·rw [if_neg hbig] at hNif
  subst hNif
  have t1 : decide ((64 : Int) < (m : Int) + 1 + 8) = false := by simp; omega
  have hmk := fun W => make_bytes 64 (by omega) W 64 rfl
  have hm1 : m < 64 := by omega
  have hm2 : (m : Int) < 64 := by omega
  have BS : Hid (B ≤ w.heap.size) := Lib.hid hB
  clear hB
  go_enter Tryz.func115, Tryz.ntmps115
  have HR0 := Lib.hid (HS.out.below ((Below.refl w.heap.size w).alloc (Nat.le_refl _) (.cells (rowArr 64 fun _ => 0) 5)) BS.out)
  have L0 : Hid (Below w.heap.size w (w.alloc (.cells (rowArr 64 fun _ => 0) 5))) := Lib.hid ((Below.refl _ _).alloc (Nat.le_refl _) _)
  go_wp2_with ((with_reducible refine wpList_copyRd rfl (.tmp 21) (.tmp 22) _ _ rfl Tryz.underlying76 w.heap.size 64 m _ B S rfl rfl (fun _ => 0) (fun j => X (q * 64 + j)) (Blk.new w 5 _) HR0.out (by omega) ?_); intro w2 hb2 ho2 hs2; refine of_hid ?_)
  refine Lib.hid ?_
  have B2 : Hid (Blk w2 w.heap.size 5 (rowArr 64 (fun j => if j < m then X (q * 64 + j) else 0))) := Lib.hid hb2
  have L2 := Lib.hid (L0.out.trans (ho2.below (Nat.le_refl _) (by simp)))
  clear hb2 ho2 hs2 HR0 L0 hmk hsl
  have c0 : w2.cell? ⟨w.heap.size, m, none⟩ = some (.int .u8 (((if m < m then X (q * 64 + m) else 0 : Nat)) : Int)) := (B2.out.cell m).trans (rowArr_get hm1)
  have f0 := B2.out.frozen m
  generalize (if m < m then X (q * 64 + m) else 0) = z0 at c0
  go_wp2_with fail
  have B3 : Hid (Blk (w2.setCell ⟨w.heap.size, m, none⟩ (.int .u8 128)) w.heap.size 5 (rowArr 64 (M.restTo n X 0))) := by
   have h := B2.out.set_ m (.int .u8 (((128 : Nat) : Nat) : Int))
   rw [rowArr_set hm1] at h
   have e : rowArr 64 (M.restTo n X 0) = rowArr 64 (fun j => if j = m then 128 else if j < m then X (q * 64 + j) else 0) := rowArr_congr fun j hj => by
    rw [HM.out, HQ.out]
    exact (restTo_zero n X j (by rw [← HN.out]; exact hj)).symm
   rw [e]
   exact h
  have L3 := Lib.hid (L2.out.setCell (p := ⟨w.heap.size, m, none⟩) (Nat.le_refl _) (.int .u8 128))
  clear B2 L2 c0 f0
  generalize w2.setCell ⟨w.heap.size, m, none⟩ (.int .u8 128) = w3 at *
  generalize hh : w.heap.size = h at *
  have HH := Lib.hid hh
  clear hh
  go_loopw [7, 32] (fun _ x wr => ∃ k : Nat, k ≤ 8 ∧ x = .int .i64 k ∧ Hid (Blk wr h 5 (rowArr 64 (M.restTo n X k))) ∧ Hid (Below h w wr)) (fun _ x _ => 8 - (intOf x).toNat)
  case atStart => exact ⟨0, by omega, rfl, B3, L3⟩
  case round =>
   obtain ⟨k, hk, rfl, B4, L4⟩ := hrel
   clear B3 L3
   by_cases hlt : k < 8
   ·have i1 : (0 : Int) ≤ (k : Int) := by omega
    have i2 : (k : Int) < 8 := by omega
    have a1 : IntKind.i64.wrap (63 - (k : Int)) = 63 - (k : Int) := by rw [IntKind.wrap_i64]; omega
    have a2 : (k : Int) ≤ 63 := by omega
    have a3 : 63 - (k : Int) < 64 := by omega
    have a4 : (63 - (k : Int)).toNat = 63 - k := by omega
    have a5 : min (8 * k) 64 = 8 * k := by omega
    have c1 : wr.cell? ⟨h, 63 - k, none⟩ = some (.int .u8 ((M.restTo n X k (63 - k) : Nat) : Int)) := (B4.out.cell _).trans (rowArr_get (by omega))
    have f1 := B4.out.frozen (63 - k)
    go_wp2_with fail
    have ev : (n : Int) * 8 / 2 ^ (8 * k) % 256 = ((((n * 8) >>> (8 * k)) % 256 : Nat) : Int) := by
     rw [Nat.shiftRight_eq_div_pow, Int.natCast_emod, Int.natCast_ediv, Int.natCast_pow, Int.natCast_mul]; rfl
    rw [ev]
    have B5 : Hid (Blk (wr.setCell ⟨h, 63 - k, none⟩ (.int .u8 ((((n * 8) >>> (8 * k)) % 256 : Nat) : Int))) h 5 (rowArr 64 (M.restTo n X (k + 1)))) := by
     have h5 := restTo_set n X k hlt
     rw [← HN.out] at h5
     have h6 := B4.out.set_ (63 - k) (.int .u8 ((((n * 8) >>> (8 * k)) % 256 : Nat) : Int))
     rw [h5] at h6
     exact Lib.hid h6
    have L5 := Lib.hid (L4.out.setCell (p := ⟨h, 63 - k, none⟩) (Nat.le_refl _) (.int .u8 ((((n * 8) >>> (8 * k)) % 256 : Nat) : Int)))
    clear B4 L4 c1 f1
    go_roundw
    case rel => exact ⟨k + 1, by omega, by go_num, B5, L5⟩
    case measure => simp [intOf]; omega
   ·obtain rfl : k = 8 := by omega
    clear hlt
    go_wp2_with fail
    go_ret
    rw [HH.out, ← HN.out]
    exact ⟨rfl, B4.out, L4.out⟩
end Go.Proofs.YtgbehfkimchglaaGreatDoor
