/-
  The walk of 'FieldHolds': a solution that is told holds in each equation and is the one; where there is another one none is told.
-/
import Derived.Test.YtmiedappfmlofaaFieldSys
import Derived.Deep.RegionHeld3
namespace Go.Proofs.Ytmiedappfmlofaa
open Go.RowKit
set_option linter.unusedVariables false

namespace fieldHolds
/-- rows nil or empty -/
theorem empty (A A2 : Option Addr) (c m c2 : Nat) (w : World) :
    Calls Try.prog 7 #[.slice A 0 c, .slice A2 m c2] w fun e w' => e = .returned (.bool true) ∧ Below w.heap.size w w' := by
  go_enter Try.func7, Try.ntmps7
  go_wp2_with fail
  refine (known_any _).mono ?_
  rintro e w1 ⟨rfl, hb1⟩
  have B1 := Lib.hid hb1
  clear hb1
  go_wp2_with fail
  refine (fresh_any _).mono ?_
  rintro e w2 ⟨rfl, hf2, hb2, hs2⟩
  have B2 := Lib.hid (B1.out.trans (hb2.mono B1.out.size))
  have F2 := Lib.hid hf2
  clear hb2 hf2 hs2 B1
  generalize w1.heap.size = g at *
  go_wp2_with fail
  go_loopw [7, 8] (fun r x wr => x = .int .i64 0 ∧ r = .slice none 0 0 ∧ Hid (Below w.heap.size w wr)) (fun _ x _ => 0)
  case atStart => exact ⟨rfl, rfl, B2⟩
  case round =>
    obtain ⟨rfl, rfl, B3⟩ := hrel
    go_wp2_with fail
    refine (solve_bad g A none 0 c 0 0 0 (fun _ => none) (fun _ => 0) (fun _ => 0) (fun _ _ => 0) _ (fun i hi => absurd hi (by omega)) (fun h => absurd h.1 (by omega))).mono ?_
    rintro e w' ⟨rfl, rfl⟩
    go_wp2_with fail
    go_ret
    exact ⟨rfl, B3.out⟩

theorem limit (n m : Nat) (rl : Nat → Nat) : ∃ lim, lim ≤ n ∧ (∀ i, i < lim → rl i = n ∧ m = n ∧ n ≤ 8) ∧ (lim < n → rl lim ≠ n ∨ m ≠ n ∨ 8 < n) := by
  by_cases h : m = n ∧ n ≤ 8
  · by_cases h2 : ∀ i, i < n → rl i = n
    · exact ⟨n, Nat.le_refl _, fun i hi => ⟨h2 i hi, h⟩, fun hh => absurd hh (by omega)⟩
    · obtain ⟨i0, h3, h4, h5⟩ := least_bad h2
      exact ⟨i0, by omega, fun i hi => ⟨h5 i hi, h⟩, fun _ => .inl h4⟩
  · exact ⟨0, by omega, fun i hi => absurd hi (by omega), fun _ => .inr (by omega)⟩

set_option maxRecDepth 100000 in
set_option maxHeartbeats 1600000 in
theorem main (A A2 : Option Addr) (n c m c2 : Nat) (ra : Nat → Option Addr) (rl rc : Nat → Nat) (x : Nat → Nat → Nat) (v : Nat → Nat) (w : World) (hn : 1 ≤ n) (hcap : n ≤ c) (hmax : c ≤ maxLen) (hm2 : m ≤ maxLen) (hrl : ∀ i, i < n → rl i ≤ maxLen)
    (hr : RdR w w.heap.size A n ra rl rc x) (hv : RdB w w.heap.size A2 m v) :
    Calls Try.prog 7 #[.slice A n c, .slice A2 m c2] w fun e w' => e = .returned (.bool true) ∧ Below w.heap.size w w' := by
  unfold maxLen at hmax hm2 hrl
  obtain ⟨lim, hlim, hgood, hbad⟩ := limit n m rl
  have HG := Lib.hid hgood
  have HBAD := Lib.hid hbad
  have HR := Lib.hid hr
  have HV := Lib.hid hv
  have HRL := Lib.hid hrl
  obtain ⟨b, o, hA, hbB, hjunk⟩ := hr 0 (by omega)
  clear hjunk
  subst hA
  have HX : Hid (∀ W, Below w.heap.size w W → ∀ i, i < n → W.cell? ⟨b, o + i, none⟩ = some (.slice (ra i) (rl i) (rc i))) := by
    intro W hW i hi
    obtain ⟨b', o', h1, h2, h3, h4⟩ := hr i hi
    injection h1 with h1
    injection h1 with h1 h2'
    subst h1; subst h2'
    exact (hW.cell (p := ⟨b, o + i, none⟩) h2).trans h3
  have HROWS : Hid (∀ i, i < lim → ∃ b3 o3, ra i = some ⟨b3, o3, none⟩ ∧ b3 < w.heap.size ∧ ∀ q, q < n → w.cell? ⟨b3, o3 + q, none⟩ = some (.int .u8 (x i q : Nat)) ∧ x i q < 256) := by
    intro i hi
    obtain ⟨_, _, _, _, _, hrow⟩ := hr i (by omega)
    rw [(hgood i hi).1] at hrow
    obtain ⟨b3, o3, hA3, hb3, _⟩ := hrow 0 (by omega)
    refine ⟨b3, o3, hA3, hb3, fun q hq => ?_⟩
    obtain ⟨b', o', h1, _, h3, h4⟩ := hrow q hq
    rw [hA3] at h1
    injection h1 with h1
    injection h1 with h1 h2
    subst h1; subst h2
    exact ⟨h3, h4⟩
  have HVECS : Hid (∀ i, i < lim → ∃ b4 o4, A2 = some ⟨b4, o4, none⟩ ∧ b4 < w.heap.size ∧ ∀ q, q < n → w.cell? ⟨b4, o4 + q, none⟩ = some (.int .u8 (v q : Nat)) ∧ v q < 256) := by
    intro i hi
    have e := (hgood i hi).2.1
    obtain ⟨b4, o4, hA2, hb4, _⟩ := hv 0 (by omega)
    refine ⟨b4, o4, hA2, hb4, fun q hq => ?_⟩
    obtain ⟨b', o', h1, _, h3, h4⟩ := hv q (by omega)
    rw [hA2] at h1
    injection h1 with h1
    injection h1 with h1 h2
    subst h1; subst h2
    exact ⟨h3, h4⟩
  clear hgood hbad hr hv hrl
  go_enter Try.func7, Try.ntmps7
  go_wp2_with fail
  refine (known_any _).mono ?_
  rintro e w1 ⟨rfl, hb1⟩
  have B1 := Lib.hid hb1
  clear hb1
  go_wp2_with fail
  refine (fresh_any _).mono ?_
  rintro e w2 ⟨rfl, hf2, hb2, hs2⟩
  have B2 := Lib.hid (B1.out.trans (hb2.mono B1.out.size))
  have F2 := Lib.hid hf2
  have hle := B1.out.size
  clear hb2 hf2 hs2 B1
  generalize w1.heap.size = g at *
  go_wp2_with fail
  have OW0 : Hid (w2.ownsRow w.heap.size 5 1 (.slice none 0 0) 0 ((List.range 0).map fun j => Value.int .u8 ((M.xsum n (fun k => M.gmul (x j k) (v k)) : Nat) : Int))) := ⟨by simp, .inl ⟨rfl, rfl⟩⟩
  go_loopw [7, 8] (fun r s wr => ∃ i : Nat, i ≤ lim ∧ s = .int .i64 i ∧ Hid (wr.ownsRow w.heap.size 5 1 r i ((List.range i).map fun j => Value.int .u8 ((M.xsum n (fun k => M.gmul (x j k) (v k)) : Nat) : Int))) ∧ Hid (Fld wr g) ∧ Hid (Below w.heap.size w wr)) (fun _ s _ => n - (intOf s).toNat)
  case atStart => exact ⟨0, by omega, rfl, OW0, F2, B2⟩
  case round =>
    obtain ⟨i, hi, rfl, OW, F3, B3⟩ := hrel
    clear OW0 F2 B2
    by_cases hlt : i < lim
    · obtain ⟨g1, g2, g3⟩ := HG.out i hlt
      have c1 := HX.out _ B3.out i (by omega)
      rw [g1] at c1
      have t1 : ((n : Int) != (n : Int)) = false := by simp
      have t2 : ((m : Int) != (n : Int)) = false := by rw [g2]; simp
      have t3 : ((8 : Int) < (n : Int)) = False := by simp; omega
      clear g1
      obtain rfl : m = n := g2
      obtain ⟨b4, o4, hA2, hb4, hvec⟩ := HVECS.out i hlt
      have HVEC := Lib.hid hvec
      obtain ⟨b3, o3, hA3, hb3, hrow⟩ := HROWS.out i hlt
      have HROW := Lib.hid hrow
      rw [hA3] at c1
      subst hA2
      clear hrow hvec hA3
      go_wp2_with fail
      obtain ⟨wa, rfl⟩ : ∃ wa : World, wa = wr := ⟨_, rfl⟩
      go_loopw [9, 10] (fun s k wr => ∃ q : Nat, q ≤ m ∧ k = .int .i64 q ∧ s = .int .u8 ((M.xsum q (fun k => M.gmul (x i k) (v k)) : Nat) : Int) ∧ Hid (Fld wr g) ∧ Hid (Only g wa wr)) (fun _ k _ => m - (intOf k).toNat)
      case atStart => exact ⟨0, by omega, rfl, rfl, F3, Only.refl _ _⟩
      case round =>
        obtain ⟨q, hq, rfl, rfl, F4, O4⟩ := hrel
        have B4 := Lib.hid (B3.out.trans (O4.out.below hle B3.out.size))
        by_cases hlq : q < m
        · obtain ⟨k1, k2⟩ := HROW.out q hlq
          obtain ⟨k3, k4⟩ := HVEC.out q hlq
          have d1 := HX.out _ B4.out i (by omega)
          have d2 : wr.cell? ⟨b3, o3 + q, none⟩ = some (.int .u8 (x i q : Nat)) := (B4.out.cell (p := ⟨b3, o3 + q, none⟩) hb3).trans k1
          have d3 : wr.cell? ⟨b4, o4 + q, none⟩ = some (.int .u8 (v q : Nat)) := (B4.out.cell (p := ⟨b4, o4 + q, none⟩) hb4).trans k3
          have d1' : wr.cell? ⟨b, o + i, none⟩ = some (.slice (some ⟨b3, o3, none⟩) m (rc i)) := (O4.out.cell c1 (show b ≠ g by omega))
          have hs := M.xsum_lt (n := q) (f := fun k => M.gmul (x i k) (v k)) (fun _ _ => M.gmul_lt _ _)
          have HSUM := Lib.hid (show M.xsum (q + 1) (fun k => M.gmul (x i k) (v k)) = M.xsum q (fun k => M.gmul (x i k) (v k)) ^^^ M.gmul (x i q) (v q) from rfl)
          have xr := u8_xor_nat (M.xsum q (fun k => M.gmul (x i k) (v k))) (M.gmul (x i q) (v q)) hs (M.gmul_lt _ _)
          have O4d : Hid (Only g wa wr.drew) := O4.out.drew
          clear k1 k3 d1 c1 t1 t2 t3
          generalize M.xsum q (fun k => M.gmul (x i k) (v k)) = s at *
          generalize x i q = xq at *
          generalize v q = vq at *
          generalize rc i = ci at *
          go_wp2_with fail
          go_region_held3 (fun w' => w'.cell? ⟨b, o + i, none⟩ = some (.slice (some ⟨b3, o3, none⟩) m ci) ∧ w'.cell? ⟨b3, o3 + q, none⟩ = some (.int .u8 (xq : Nat)) ∧ w'.cell? ⟨b4, o4 + q, none⟩ = some (.int .u8 (vq : Nat)) ∧ Hid (Fld w' g) ∧ Hid (Only g wa w'))
            (exact ⟨by assumption, by assumption, by assumption, by assumption, by assumption⟩)
            (first | (go_at_call 19; refine (mul_some k2 k4 (Hid.out (by assumption))).mono ?_; rintro e w' ⟨rfl, hf', ho'⟩; have l1 : w'.cell? ⟨b, o + i, none⟩ = some (.slice (some ⟨b3, o3, none⟩) m ci) := ho'.cell (by assumption) (show b ≠ g by omega); have l2 : w'.cell? ⟨b3, o3 + q, none⟩ = some (.int .u8 (xq : Nat)) := ho'.cell (by assumption) (show b3 ≠ g by omega); have l3 : w'.cell? ⟨b4, o4 + q, none⟩ = some (.int .u8 (vq : Nat)) := ho'.cell (by assumption) (show b4 ≠ g by omega); have l4 : Hid (Fld w' g) := hf'; have l5 : Hid (Only g wa w') := Only.trans (b := _) (Hid.out (p := Only g wa _) (by assumption)) ho'; clear hf' ho'))
          go_wp2_with fail
          go_roundw
          case rel => exact ⟨q + 1, by omega, by go_num, by rw [HSUM.out], by assumption, by assumption⟩
          case measure => simp [intOf]; omega
        · have hqm : q = m := by omega
          have HSV := Lib.hid (show M.xsum q (fun k => M.gmul (x i k) (v k)) = M.xsum m (fun k => M.gmul (x i k) (v k)) by rw [hqm])
          have OW4 := Lib.hid (own_only OW.out O4.out (F3.out.own_ne OW.out (by decide)))
          have hbz : w.heap.size ≤ wr.heap.size := B4.out.size
          have OW5 := Lib.hid (OW4.out.alloc (.cells #[.int .u8 ((M.xsum m (fun k => M.gmul (x i k) (v k)) : Nat) : Int)] 5))
          clear hqm
          rw [HSV.out]
          generalize hsx : M.xsum m (fun k => M.gmul (x i k) (v k)) = s at *
          have HSX := Lib.hid hsx
          clear hsx c1 t1 t2 t3 HSV
          go_wp2_with (at_builtin; refine wpList_append1 rfl (.tmp 61) (.tmp 63) _ rfl w.heap.size 5 (.int .u8 0) 1 Try.underlying37 info_u8 rfl (by omega) _ i _ rfl OW5.out ⟨wr.heap.size, 0, none⟩ rfl (.int .u8 (s : Nat)) rfl (by simp) (by omega) (by simp; omega) ?_; intro v' w' hv' hg')
          have OW6 : Hid (w'.ownsRow w.heap.size 5 1 v' (i + 1) ((List.range (i + 1)).map fun j => Value.int .u8 ((M.xsum m (fun k => M.gmul (x j k) (v k)) : Nat) : Int))) := by
            show World.ownsRow _ _ _ _ _ _ _
            rw [List.range_succ, List.map_append, List.map_cons, List.map_nil, HSX.out]
            exact hv'
          have F6 : Hid (Fld w' g) := (F4.out.alloc _).grown hg' (fun e => (F4.out.own_ne OW4.out (by decide)) e.symm)
          have B6 : Hid (Below w.heap.size w w') := (B4.out.alloc hbz _).grown hg' (by simp; omega) (fun k hk => (OW4.out.lt k hk).1)
          clear hv' hg' OW5 OW4
          go_roundw
          case rel => exact ⟨i + 1, by omega, by go_num, OW6, F6, B6⟩
          case measure => simp [intOf]; omega
    · obtain rfl : i = lim := by omega
      by_cases hend : i = n
      · subst hend
        have HSQ : Hid (m = i ∧ IsSq i i rl) := ⟨(HG.out (i - 1) (by omega)).2.1, hn, (HG.out (i - 1) (by omega)).2.2, rfl, fun j hj => (HG.out j hj).1⟩
        obtain rfl : m = i := HSQ.out.1
        have hm8 : m ≤ 8 := HSQ.out.2.2.1
        obtain ⟨Ar, cr, hvr, hrd, hblk⟩ := rdb_of_own OW.out (fun j _ => M.xsum_lt fun _ _ => M.gmul_lt _ _)
        have hne : ∀ b' o', Ar = some ⟨b', o', none⟩ → 0 < m → b' ≠ g := fun b' o' e _ e2 => (F3.out.own_ne OW.out (by decide)) (by rw [hblk b' o' e, e2])
        have HRD := Lib.hid hrd
        have HNE := Lib.hid hne
        have hsz : w.heap.size ≤ wr.heap.size := B3.out.size
        clear OW hblk hrd hne
        subst hvr
        have hm0 : ((m : Int) == 0) = false := by simp; omega
        have HR3 : Hid (∀ w1, Only g wr w1 → RdR w1 w.heap.size (some ⟨b, o, none⟩) m ra rl rc x) := fun w1 ho => (HR.out.below B3.out (Nat.le_refl _)).below (ho.below hle hsz) (Nat.le_refl _)
        have HY3 : Hid (∀ w1, Only g wr w1 → RdB w1 wr.heap.size Ar m (fun j => M.xsum m (fun k => M.gmul (x j k) (v k)))) := fun w1 ho => HRD.out.only ho HNE.out
        go_wp2_with fail
        refine (solve_ok g _ Ar m c cr w.heap.size wr.heap.size ra rl rc x _ wr hsz (Nat.le_refl _) HR3.out HY3.out HSQ.out.2 F3.out).mono ?_
        rintro e w4 ⟨hs4, hf4, ho4⟩
        have B4 := Lib.hid (B3.out.trans (ho4.below hle hsz))
        have F4 := Lib.hid hf4
        have hsz4 : w.heap.size ≤ w4.heap.size := B4.out.size
        have HV4 := Lib.hid (HV.out.below B4.out (Nat.le_refl _))
        clear hf4 ho4
        have HSV := Lib.hid hs4
        clear hs4
        rcases HSV.out with ⟨g', X, hg', hb', hX, hsol⟩ | ⟨z, hz, hzn, hzne, hzs⟩
        · have heq := one_eq (v := v) (fun j hj => by obtain ⟨_, _, _, _, _, h5⟩ := HV.out j hj; exact h5) hX (fun _ _ => rfl) hsol
          have hc1 := convert_rd (cap := m) (rdb_of_blk hb' hX) hn
          have hc2 := convert_rd (cap := c2) HV4.out hn
          rw [txt_congr heq] at hc1
          generalize txt m v = tx at *
          clear HSV hg' hb' hX hsol heq
          go_wp2_with fail
          go_ret
          exact ⟨rfl, B4.out⟩
        · have hmk := fun W => make_bytes m (by omega) W (m : Int) rfl
          have HZ := Lib.hid hz
          have HZN := Lib.hid hzn
          have HZE := Lib.hid hzne
          have HZS := Lib.hid hzs
          clear HSV hz hzn hzne hzs
          have F5 : Hid (Fld (w4.alloc (.cells (rowArr m fun _ => 0) 5)) g) := F4.out.alloc _
          have B5 : Hid (Below w.heap.size w (w4.alloc (.cells (rowArr m fun _ => 0) 5))) := B4.out.alloc hsz4 _
          have R5 : Hid (∀ w1, Only g (w4.alloc (.cells (rowArr m fun _ => 0) 5)) w1 → RdR w1 w.heap.size (some ⟨b, o, none⟩) m ra rl rc x) := fun w1 ho => (HR.out.below B5.out (Nat.le_refl _)).below (ho.below hle B5.out.size) (Nat.le_refl _)
          have Y5 : Hid (∀ w1, Only g (w4.alloc (.cells (rowArr m fun _ => 0) 5)) w1 → RdB w1 (w4.heap.size + 1) (some ⟨w4.heap.size, 0, none⟩) m (fun _ => 0)) := fun w1 ho =>
            (rdb_of_blk (Blk.new w4 _ _) (fun _ _ => by omega)).only ho (fun b' o' e _ e2 => by injection e with e; injection e with e3 _; have := F4.out.lt; omega)
          go_wp2_with fail
          refine (solve_ok g _ (some ⟨w4.heap.size, 0, none⟩) m c m w.heap.size (w4.heap.size + 1) ra rl rc x (fun _ => 0) _ B5.out.size (by simp) R5.out Y5.out HSQ.out.2 F5.out).mono ?_
          rintro e w6 ⟨hs6, hf6, ho6⟩
          have B6 := Lib.hid (B5.out.trans (ho6.below hle B5.out.size))
          clear hf6 ho6
          have HSV := Lib.hid hs6
          clear hs6
          rcases HSV.out with ⟨g', X, hg', hb', hX, hsol⟩ | ⟨z', hz', hzn', hzne', hzs'⟩
          · exact (not_one HZ.out HZN.out HZE.out HZS.out hsol).elim
          · clear HSV hz' hzn' hzne' hzs'
            go_wp2_with fail
            go_ret
            exact ⟨rfl, B6.out⟩
      · have hbad := HBAD.out (by omega)
        have c1 := HX.out _ B3.out i (by omega)
        have hrli := HRL.out i (by omega)
        by_cases t1 : rl i = n
        · rw [t1] at c1
          have e1 : ((n : Int) != (n : Int)) = false := by simp
          by_cases t2 : m = n
          · have e2 : ((m : Int) != (n : Int)) = false := by rw [t2]; simp
            have e3 : ((8 : Int) < (n : Int)) = True := by simp; omega
            clear hbad t1 t2
            generalize ra i = r1 at *
            generalize rc i = r2 at *
            go_wp2_with fail
            go_ret
            exact ⟨rfl, B3.out⟩
          · have e2 : ((m : Int) != (n : Int)) = true := by rw [bne_iff_ne]; omega
            clear hbad t1 t2
            generalize ra i = r1 at *
            generalize rc i = r2 at *
            go_wp2_with fail
            go_ret
            exact ⟨rfl, B3.out⟩
        · have e1 : ((rl i : Int) != (n : Int)) = true := by rw [bne_iff_ne]; omega
          clear hbad t1
          generalize ra i = r1 at *
          generalize rc i = r2 at *
          generalize rl i = r3 at *
          go_wp2_with fail
          go_ret
          exact ⟨rfl, B3.out⟩

theorem walk (a0 : Option Addr) (len0 cap0 : Nat) (ra0 : Nat → Option Addr) (rl0 rc0 : Nat → Nat) (y0 : Nat → Nat → Nat) (a1 : Option Addr) (len1 cap1 : Nat) (y1 : Nat → Nat) (w : World)
    (hy0 : RdR w w.heap.size a0 len0 ra0 rl0 rc0 y0) (hl0 : len0 ≤ cap0) (hm0 : cap0 ≤ maxLen) (hc0 : ∀ i, i < len0 → rl0 i ≤ rc0 i ∧ rc0 i ≤ maxLen) (hy1 : RdB w w.heap.size a1 len1 y1) (hl1 : len1 ≤ cap1) (hm1 : cap1 ≤ maxLen) :
    Calls Try.prog 7 #[.slice a0 len0 cap0, .slice a1 len1 cap1] w fun e w' => e = .returned (.bool true) ∧ Below w.heap.size w w' := by
  by_cases h : len0 = 0
  · subst h
    exact empty a0 a1 cap0 len1 cap1 w
  · exact main a0 a1 len0 cap0 len1 cap1 ra0 rl0 rc0 y0 y1 w (by omega) hl0 hm0 (by omega) (fun i hi => by have := hc0 i hi; omega) hy0 hy1
end fieldHolds
end Go.Proofs.Ytmiedappfmlofaa
