/-
  'array.rebuilt' by a contract: a block's data, made again without some drives. Conditions: the block is one, three drives at most are left out, the cells of the others have 128 bytes.
-/
import Derived.Test.YtlhjpceaookanaaGreatDoorArrUnlayM
namespace Go.Proofs.YtlhjpceaookanaaGreatDoor
open Go Go.RowKit refRack
set_option maxRecDepth 100000
set_option linter.unusedVariables false
namespace Arr
open Cc
/-- a row has no more bad cells than drives are left out -/
theorem plc_le {N k A : Nat} {l : List Nat} (hk : k + 3 ≤ N) : (plc k (fun j => decide ((A + j) % N ∈ l))).length ≤ l.length := by
  have hinj : ∀ i j, i < k + 3 → j < k + 3 → (A + pi k i) % N = (A + pi k j) % N → i = j := by
    intro i j hi hj e
    have h1 := pi_lt hi
    have h2 := pi_lt hj
    have e2 : pi k i = pi k j := by
      have e3 : (A + pi k i) / N * N + (A + pi k i) % N = A + pi k i := Nat.div_add_mod' _ _
      have e4 : (A + pi k j) / N * N + (A + pi k j) % N = A + pi k j := Nat.div_add_mod' _ _
      rw [e] at e3
      rcases Nat.lt_trichotomy ((A + pi k i) / N) ((A + pi k j) / N) with h | h | h
      · have : ((A + pi k i) / N + 1) * N ≤ (A + pi k j) / N * N := Nat.mul_le_mul_right _ h
        rw [Nat.succ_mul] at this
        omega
      · rw [h] at e3; omega
      · have : ((A + pi k j) / N + 1) * N ≤ (A + pi k i) / N * N := Nat.mul_le_mul_right _ h
        rw [Nat.succ_mul] at this
        omega
    unfold pi at e2
    split at e2 <;> split at e2 <;> omega
  have hnd : (plc k (fun j => decide ((A + j) % N ∈ l))).Nodup := by
    unfold plc trueL
    exact List.Pairwise.filter _ List.nodup_range
  have hm : ((plc k (fun j => decide ((A + j) % N ∈ l))).map fun i => (A + pi k i) % N).Nodup := by
    refine List.pairwise_map.2 (List.Pairwise.imp_of_mem (fun {i j} hi hj h => ?_) hnd)
    intro e
    unfold plc trueL at hi hj
    rw [List.mem_filter, List.mem_range] at hi hj
    exact h (hinj _ _ hi.1 hj.1 e)
  have hsub : ((plc k (fun j => decide ((A + j) % N ∈ l))).map fun i => (A + pi k i) % N) ⊆ l := by
    intro y hy
    rw [List.mem_map] at hy
    obtain ⟨i, hi, rfl⟩ := hy
    unfold plc trueL at hi
    rw [List.mem_filter] at hi
    simpa using hi.2
  have := List.Nodup.length_le_of_subset hm hsub
  rwa [List.length_map] at this
section
variable {B a r f : Nat} {w w' : World} {s s' : RS}
set_option maxHeartbeats 1600000 in
theorem rb1_any (W : World) (hA : At B W a r f s) (bo ba bd base : Nat) (ov : Value) (l : List Nat) (A i : Nat) (h1 : W.cell? ⟨bo, 0, none⟩ = some ov) (h2 : W.cell? ⟨ba, 0, none⟩ = some (.pointer (some ⟨a, 0, none⟩))) (h3 : W.cell? ⟨bd, 0, none⟩ = some (.int .i64 (A : Int))) (hO : Nr.OwnN W base ov l) (hl : l.length ≤ 1000) (hAi : A + i ≤ 90000) :
    Calls Tryz.prog 65 #[.int .i64 (i : Int), .pointer (some ⟨bo, 0, none⟩), .pointer (some ⟨ba, 0, none⟩), .pointer (some ⟨bd, 0, none⟩)] W fun e w' => e = .returned (.bool (decide ((A + i) % s.nd ∈ l))) ∧ ∃ d, w' = W.drewN d := by
  have HD := Lib.hid (fun n => drive_any (W.drewN n) (hA.drewN n) (A + i) (by omega))
  have HC := Lib.hid (fun n => Sq.contains_any (W.drewN n) (W.drewN n).heap.size ov l ((A + i) % s.nd) (Sq.own_ints (Gr.OwnG.below hO (below_drewN (Below.refl _ _) n) (Nat.le_refl _))) (by omega))
  have e1 : wrap64 ((A : Int) + (i : Int)) = ((A + i : Nat) : Int) := by unfold wrap64; omega
  generalize (A + i) % s.nd = x at *
  generalize hy : A + i = y at *
  have HY := Lib.hid hy
  clear hA hO hy
  go_enter Tryz.func65, Tryz.ntmps65
  go_wp2_with fail
  go_quiet (first | (go_at_call 43; exact Calls.quiet_of_same (HD.out _)) | (go_at_call 66; exact Calls.quiet_of_same (HC.out _)))
  go_wp2_with fail
  go_ret
  exact ⟨rfl, _, rfl⟩
/-- what 'rebuilt' tells of a row -/
noncomputable def rebR (N n ad : Nat) (l : List Nat) (x : Nat → Nat → Nat) (r : Nat) : List Nat :=
  joinL (fun t => (List.range 128).map (outRow (kR N (secs n) r) (fun j => decide ((ad + r * N + j) % N ∈ l)) (fun j => x (r * N + j)) t)) (kR N (secs n) r)
noncomputable def rebL (N n ad : Nat) (l : List Nat) (x : Nat → Nat → Nat) : List Nat := joinL (rebR N n ad l x) (rws N (secs n))
theorem rebR_len (N n ad : Nat) (l : List Nat) (x : Nat → Nat → Nat) (r : Nat) : (rebR N n ad l x r).length = kR N (secs n) r * 128 := joinL_len (fun j => by simp) _
theorem rebL_upto {N n : Nat} (hN : 5 ≤ N) (h1 : 1 ≤ n) (ad : Nat) (l : List Nat) (x : Nat → Nat → Nat) : ∀ r, r ≤ rws N (secs n) → (r < rws N (secs n) → (joinL (rebR N n ad l x) r).length = r * (N - 3) * 128) ∧ (r = rws N (secs n) → (joinL (rebR N n ad l x) r).length = secs n * 128)
  | 0, _ => ⟨fun _ => by simp [joinL], fun e => by have := (rws_spec hN (secs_pos h1)).1; omega⟩
  | r + 1, h => by
    have ih := (rebL_upto hN h1 ad l x r (by omega)).1 (by omega)
    have hx := row_next hN (secs_pos h1) (r := r) (by omega)
    have e := rebR_len N n ad l x r
    rw [joinL_succ, List.length_append, ih, e, ← Nat.add_mul]
    constructor
    · intro h2
      rw [if_pos h2] at hx
      rw [hx, Nat.succ_mul]
    · intro h2
      rw [if_neg (by omega)] at hx
      rw [hx.2]
theorem rebL_len {N n : Nat} (hN : 5 ≤ N) (h1 : 1 ≤ n) (ad : Nat) (l : List Nat) (x : Nat → Nat → Nat) : (rebL N n ad l x).length = secs n * 128 := (rebL_upto hN h1 ad l x _ (Nat.le_refl _)).2 rfl
set_option maxHeartbeats 6400000 in
theorem rebuilt_any (w : World) (h : At B w a r f s) (ad n : Nat) (h1 : 1 ≤ n) (hn : n ≤ 1024) (hc : ad + cost s.nd n ≤ cells s f) (g Bx : Nat) (ra : Nat → Option Addr) (rl rc : Nat → Nat) (x : Nat → Nat → Nat) (hr : RdR w Bx (some ⟨g, 0, none⟩) (cost s.nd n) ra rl rc x) (hBx : Bx ≤ w.heap.size)
    (base : Nat) (ov : Value) (l : List Nat) (hO : Nr.OwnN w base ov l) (hl : l.length ≤ 3) (hgood : ∀ i, i < cost s.nd n → (ad + i) % s.nd ∉ l → rl i = 128) :
    Calls Tryz.prog 37 #[.pointer (some ⟨a, 0, none⟩), .int .i64 (ad : Int), .slice (some ⟨g, 0, none⟩) (cost s.nd n) (cost s.nd n), ov] w fun e w' => ∃ v, e = .returned v ∧ Gr.OwnG 5 1 csB w' w.heap.size v (rebL s.nd n ad l x) ∧ Below w.heap.size w w' := by
  have h5 := h.five
  obtain ⟨h16, h2k⟩ := h.bounds
  have hs8 := secs_le hn
  have hsp := secs_pos h1
  have hrw := rws_le (N := s.nd) h5 hsp
  have hle := cells_le h
  obtain ⟨oA, oc, rfl⟩ : ∃ oA oc, ov = .slice oA l.length oc := by
    rcases Nr.own_shape hO with ⟨rfl, e⟩ | ⟨g, c, rfl, _⟩
    · exact ⟨none, 0, by rw [e]; rfl⟩
    · exact ⟨_, _, rfl⟩
  have HR := Lib.hid hr
  have HBX := Lib.hid hBx
  have HA := Lib.hid h
  have HO := Lib.hid hO
  have HL := Lib.hid hl
  have HGD := Lib.hid hgood
  have HRC : Hid (∀ q, q < rws s.nd (secs n) → 1 ≤ kR s.nd (secs n) q ∧ kR s.nd (secs n) q ≤ s.nd - 3 ∧ kR s.nd (secs n) q + 3 = min s.nd (secs n + 3 * rws s.nd (secs n) - q * s.nd) ∧ q * s.nd + (kR s.nd (secs n) q + 3) ≤ secs n + 3 * rws s.nd (secs n) ∧ q * (s.nd - 3) + kR s.nd (secs n) q ≤ secs n) := Lib.hid fun q hq => row_cells h5 hsp hq
  have HRN : Hid (∀ q, q < rws s.nd (secs n) → (if q + 1 < rws s.nd (secs n) then kR s.nd (secs n) q = s.nd - 3 else (q * s.nd + (kR s.nd (secs n) q + 3) = secs n + 3 * rws s.nd (secs n) ∧ q * (s.nd - 3) + kR s.nd (secs n) q = secs n))) := Lib.hid fun q hq => row_next h5 hsp hq
  have HRS := Lib.hid (rws_spec h5 hsp).1
  have HLEN : Hid (∀ q, q ≤ rws s.nd (secs n) → (joinL (rebR s.nd n ad l x) q).length ≤ 2000) := Lib.hid fun q hq => by
    have e1 := joinL_le (rebR s.nd n ad l x) hq
    have e2 := rebL_len h5 h1 ad l x
    unfold rebL at e2
    omega
  have HRB : Hid (∀ q, rebR s.nd n ad l x q = joinL (fun t => (List.range 128).map (outRow (kR s.nd (secs n) q) (fun j => decide ((ad + q * s.nd + j) % s.nd ∈ l)) (fun j => x (q * s.nd + j)) t)) (kR s.nd (secs n) q)) := Lib.hid fun q => rfl
  have HRL : Hid (∀ q, (rebR s.nd n ad l x q).length = kR s.nd (secs n) q * 128) := Lib.hid (rebR_len s.nd n ad l x)
  have HC : Hid (ad + cost s.nd n ≤ 32000) := Lib.hid (by omega)
  have HCC : Hid (cost s.nd n = secs n + 3 * rws s.nd (secs n)) := Lib.hid rfl
  unfold rebL
  rw [← HCC.out] at HRC HRN
  generalize hR : rws s.nd (secs n) = R at *
  generalize hK : kR s.nd (secs n) = K at *
  generalize hCe : cost s.nd n = C at *
  generalize hLL : rebR s.nd n ad l x = LL at *
  have had : ad + C ≤ 32000 := HC.out
  clear h hr hBx hO hl hgood hc hle hR hK hCe hLL HCC
  go_enter Tryz.func37, Tryz.ntmps37
  go_wp2_with fail
  obtain ⟨z, hz⟩ : ∃ z, z = w.heap.size := ⟨_, rfl⟩
  go_loopw [2, 9] (fun y x' wr => ∃ q i o : Nat, y = .slice (some ⟨g, o, none⟩) (C - i) (C - i) ∧ Hid (q ≤ R ∧ (q < R → i = q * s.nd ∧ o = i) ∧ (q = R → i = C)) ∧ Hid (Gr.OwnG 5 1 csB wr (w.heap.size + 3) x' (joinL LL q)) ∧ Hid (Below w.heap.size w wr) ∧ Hid (Blk wr w.heap.size 27 #[.pointer (some ⟨a, 0, none⟩)]) ∧ Hid (Blk wr (w.heap.size + 1) 3 #[.int .i64 ((ad + i : Nat) : Int)]) ∧ Hid (Blk wr (w.heap.size + 1 + 1) 22 #[.slice oA l.length oc])) (fun y _ _ => match y with | .slice _ n _ => n | _ => 0)
  case atStart =>
    refine ⟨0, 0, 0, rfl, Lib.hid ⟨Nat.zero_le _, fun _ => ⟨by rw [Nat.zero_mul], rfl⟩, fun e => by have := HRS.out; omega⟩, Lib.hid (Gr.OwnG.nil _ _), ?_, ?_, ?_, ?_⟩
    · exact Lib.hid ((((Below.refl _ _).alloc (Nat.le_refl _) _).alloc (by simp) _).alloc (by simp; omega) _)
    · exact Lib.hid (((Blk.new w _ _).alloc _).alloc _)
    · refine Lib.hid ?_
      have h := (Blk.new (w.alloc (.cells #[.pointer (some ⟨a, 0, none⟩)] 27)) 3 #[.int .i64 ((ad : Nat) : Int)]).alloc (.cells #[.slice oA l.length oc] 22)
      simpa using h
    · refine Lib.hid ?_
      have h := Blk.new ((w.alloc (.cells #[.pointer (some ⟨a, 0, none⟩)] 27)).alloc (.cells #[.int .i64 ((ad : Nat) : Int)] 3)) 22 #[.slice oA l.length oc]
      simpa using h
  case round =>
    obtain ⟨q, i, o, rfl, HQ, HD, HB, HP1, HP2, HP3⟩ := hrel
    by_cases hlt : q < R
    · obtain ⟨hi, rfl⟩ := HQ.out.2.1 hlt
      obtain ⟨g1, g2, g3, g4, g5⟩ := HRC.out q hlt
      have g6 := HRN.out q hlt
      have HN2 : Hid (q + 1 ≤ R ∧ (q + 1 < R → o + (K q + 3) = (q + 1) * s.nd ∧ o + (K q + 3) ≠ C) ∧ (q + 1 = R → o + (K q + 3) = C)) := Lib.hid (by
        refine ⟨by omega, fun h => ?_, fun h => ?_⟩
        · rw [if_pos h] at g6
          rw [Nat.succ_mul, ← hi]
          obtain ⟨k1, _, _, k4, _⟩ := HRC.out (q + 1) h
          rw [Nat.succ_mul, ← hi] at k4
          omega
        · rw [if_neg (by omega)] at g6
          rw [← hi] at g6
          exact g6.1)
      have HE := Lib.hid (HRB.out q)
      have HEL := Lib.hid (HRL.out q)
      rw [← hi] at HE g3 g4
      generalize hk : K q = k at *
      have HK := Lib.hid hk
      have HI := Lib.hid hi
      obtain ⟨m, hm⟩ : ∃ m, m = k + 3 := ⟨_, rfl⟩
      obtain ⟨p, hp⟩ : ∃ p, p = C - o := ⟨_, rfl⟩
      have HMP := Lib.hid (⟨hm, hp⟩ : _ ∧ _)
      have hmp : m ≤ p := by omega
      have hm16 : m ≤ 16 := by omega
      have hm4 : 4 ≤ m := by omega
      have hp32 : p ≤ 32000 := by omega
      have hao : ad + o + p ≤ 32000 := by omega
      have t1 : min (s.nd : Int) (p : Int) = (m : Int) := by omega
      have t2 : (0 : Int) < (p : Int) := by omega
      rw [← hp]
      have hsl : ∀ W : World, (Instr.sliceAt 77 (.slice (some ⟨g, o, none⟩) p p) none (some (.int .i64 (m : Int))) none).run Tryz.prog W = .ok (.slice (some ⟨g, o, none⟩) m p) W := fun W => slice_headR g o p p m hmp W
      have hst : ∀ W : World, (Instr.sliceAt 77 (.slice (some ⟨g, o, none⟩) p p) (some (.int .i64 (m : Int))) none none).run Tryz.prog W = .ok (.slice (some ⟨g, o + (if p = m then 0 else m), none⟩) (p - m) (p - m)) W := fun W => slice_tailR g o p p m hmp W
      obtain ⟨o2, ho2⟩ : ∃ o2, o2 = o + (if p = m then 0 else m) := ⟨_, rfl⟩
      rw [← ho2] at hst
      have HO2 : Hid (p ≠ m → o2 = o + m) := Lib.hid fun h => by rw [ho2, if_neg h]
      have HAr : Hid (At B wr a r f s) := Lib.hid (HA.out.grown_ HB.out)
      have HDR := Lib.hid (drives_any wr r s HAr.out.rack)
      have c0 := HAr.out.c0
      have q0 : wr.cell? ⟨w.heap.size, 0, none⟩ = some (.pointer (some ⟨a, 0, none⟩)) := HP1.out.cell 0
      have HU : Hid (Calls Tryz.prog 64 #[.slice (some ⟨g, o, none⟩) m p, .func (.func 65) #[] #[.pointer (some ⟨w.heap.size + 1 + 1, 0, none⟩), .pointer (some ⟨w.heap.size, 0, none⟩), .pointer (some ⟨w.heap.size + 1, 0, none⟩)]] wr fun e w' => ∃ v, e = .returned v ∧ Gr.OwnG 5 1 csB w' wr.heap.size v (LL q) ∧ Below wr.heap.size wr w') := Lib.hid (by
        have hU := unlay_any g o k p w.heap.size (fun j => ra (o + j)) (fun j => rl (o + j)) (fun j => rc (o + j)) (fun j => x (o + j)) wr (fun j hj => by
          obtain ⟨b', o', e, h1, h2, h3⟩ := HR.out (o + j) (by omega)
          injection e with e
          injection e with e1 e2
          subst e1 e2
          have hbx := HBX.out
          refine ⟨g, o, rfl, by omega, ?_, ?_⟩
          · have := (HB.out.cell (p := ⟨g, 0 + (o + j), none⟩) (by show g < _; omega)).trans h2
            rw [Nat.zero_add] at this
            exact this
          · exact (h3.below HB.out hbx).mono hbx) HB.out.size g1 (by omega) (by omega) (by unfold maxLen; omega) #[.pointer (some ⟨w.heap.size + 1 + 1, 0, none⟩), .pointer (some ⟨w.heap.size, 0, none⟩), .pointer (some ⟨w.heap.size + 1, 0, none⟩)]
          (fun j => decide ((ad + o + j) % s.nd ∈ l)) (fun W hW j hj => by
            have hz := HP3.out.lt
            have hb : Below w.heap.size w W := HB.out.trans (hW.mono HB.out.size)
            have := rb1_any W (HA.out.grown_ hb) (w.heap.size + 1 + 1) w.heap.size (w.heap.size + 1) base _ l (ad + o) j ((HP3.out.below hW hz).cell 0) ((HP1.out.below hW (by omega)).cell 0) ((HP2.out.below hW (by omega)).cell 0) (Gr.OwnG.below (Gr.OwnG.below HO.out HB.out (Nat.le_refl _)) hW (Nat.le_refl _)) (by have := HL.out; omega) (by omega)
            exact this) (Nat.le_trans (plc_le (by omega)) HL.out) (fun j hj hb => HGD.out (o + j) (by omega) (by simpa [Nat.add_assoc] using hb))
        rw [hm, HE.out]
        exact hU)
      clear g1 g2 g3 g4 g5 g6 hk hi hm hp ho2 HE
      clear HRB HRL HRC HRN HR HBX HGD
      go_wp2_with fail
      refine HDR.out.mono ?_
      rintro e w' ⟨rfl, rfl⟩
      go_wp2_with fail
      refine HU.out.mono ?_
      rintro e w3 ⟨v3, rfl, h3, b3⟩
      obtain ⟨A3, c3, rfl, h3a, h3b, h3c, h3d, h3e⟩ := h3.shape (fun _ => rfl)
      have D3 := Lib.hid (HD.out.below b3 (Nat.le_refl _))
      have S3 := Lib.hid (⟨h3a, h3d⟩ : _ ∧ _)
      have B3 := Lib.hid (HB.out.trans (b3.mono HB.out.size))
      have HZ3 : Hid (w.heap.size + 3 ≤ w3.heap.size) := Lib.hid (by have := HP3.out.lt; have := b3.size; omega)
      have P1 : Hid (Blk w3 w.heap.size 27 #[.pointer (some ⟨a, 0, none⟩)]) := Lib.hid (HP1.out.below b3 HP1.out.lt)
      have P2 : Hid (Blk w3 (w.heap.size + 1) 3 #[.int .i64 ((ad + o : Nat) : Int)]) := Lib.hid (HP2.out.below b3 HP2.out.lt)
      have P3 : Hid (Blk w3 (w.heap.size + 1 + 1) 22 #[.slice oA l.length oc]) := Lib.hid (HP3.out.below b3 HP3.out.lt)
      have HSUM : Hid ((joinL LL q).length + (LL q).length ≤ 1000000) := Lib.hid (by
        have := HLEN.out (q + 1) (by omega)
        rw [joinL_succ, List.length_append] at this
        omega)
      generalize hu : (LL q).length = u at *
      have HUU := Lib.hid hu
      clear h3 h3a h3b h3c h3d h3e b3 HU HDR c0 q0 HB HD HP1 HP2 HP3 hu
      go_wp2_with (at_builtin; refine wpList_app_g rfl 36 (.tmp 22) (.tmp 27) rfl rfl rfl (fun ty => app_g (fun _ => rfl) (fun x u hu => by simp [csB] at hu; subst hu; rfl) Tryz.underlying36 info_u8 rfl (by omega) D3.out (LL q) HUU.out.symm S3.out.1 S3.out.2 (by rw [HUU.out]; exact HSUM.out) HZ3.out ty) ?_; intro v4 w4 h4; refine of_hid ?_)
      refine Lib.hid ?_
      have D4 : Hid (Gr.OwnG 5 1 csB w4 (w.heap.size + 3) v4 (joinL LL (q + 1))) := Lib.hid (by rw [joinL_succ]; exact h4.1)
      have B4 : Hid (Below w.heap.size w w4) := Lib.hid (B3.out.trans (h4.2.mono (by omega)))
      have Q1 : Hid (Blk w4 w.heap.size 27 #[.pointer (some ⟨a, 0, none⟩)]) := Lib.hid (P1.out.below h4.2 (by omega))
      have Q2 : Hid (Blk w4 (w.heap.size + 1) 3 #[.int .i64 ((ad + o : Nat) : Int)]) := Lib.hid (P2.out.below h4.2 (by omega))
      have Q3 : Hid (Blk w4 (w.heap.size + 1 + 1) 22 #[.slice oA l.length oc]) := Lib.hid (P3.out.below h4.2 (by omega))
      clear h4 D3 S3 B3 P1 P2 P3 HSUM
      have p1 : w4.cell? ⟨w.heap.size + 1, 0, none⟩ = some (.int .i64 ((ad + o : Nat) : Int)) := Q2.out.cell 0
      have p2 : w4.frozen? ⟨w.heap.size + 1, 0, none⟩ = false := Q2.out.frozen 0
      go_wp2_with fail
      go_roundw
      case rel =>
        have hm := HMP.out.1
        have hp := HMP.out.2
        refine ⟨q + 1, o + m, o2, by rw [show C - (o + m) = p - m by omega], Lib.hid ⟨HN2.out.1, fun h => ?_, fun h => ?_⟩, ?_, ?_, ?_, ?_, ?_⟩
        · obtain ⟨e1, e2⟩ := HN2.out.2.1 h
          rw [hm]
          refine ⟨e1, ?_⟩
          rw [← hm]
          exact HO2.out (by omega)
        · rw [hm]; exact HN2.out.2.2 h
        · exact Lib.hid (D4.out.keep fun g' hg' => Below.heap_setCell _ _ _ g' (by show g' ≠ w.heap.size + 1; have := (D4.out.lt hg').2; omega))
        · exact Lib.hid (B4.out.setCell (p := ⟨w.heap.size + 1, 0, none⟩) (by show w.heap.size ≤ w.heap.size + 1; omega) _)
        · exact Lib.hid ((Below.heap_setCell _ _ _ w.heap.size (by show w.heap.size ≠ w.heap.size + 1; omega)).trans Q1.out)
        · refine Lib.hid ?_
          have h := Q2.out.set_ 0 (.int .i64 ((ad + (o + m) : Nat) : Int))
          have e : (ad : Int) + (o : Int) + (m : Int) = (ad : Int) + ((o : Int) + (m : Int)) := by omega
          simpa [e] using h
        · exact Lib.hid ((Below.heap_setCell _ _ _ (w.heap.size + 1 + 1) (by show w.heap.size + 1 + 1 ≠ w.heap.size + 1; omega)).trans Q3.out)
      case measure =>
        show p - m < p
        omega
    · obtain rfl : q = R := by have := HQ.out.1; omega
      obtain rfl := HQ.out.2.2 rfl
      rw [Nat.sub_self]
      go_wp2_with fail
      go_ret
      exact ⟨_, rfl, own_base HD.out (by omega), HB.out⟩
end
end Arr
end Go.Proofs.YtlhjpceaookanaaGreatDoor
