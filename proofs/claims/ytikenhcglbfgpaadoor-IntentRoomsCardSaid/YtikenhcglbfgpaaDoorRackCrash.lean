/-
  'rack.Crash' by a contract. Conditions: the rack is one; the picks lie in no block of a rack's.
-/
import Derived.Test.YtikenhcglbfgpaaDoorRackFlushM
namespace Go.Proofs.YtikenhcglbfgpaaDoor
set_option maxRecDepth 100000
open Go.RowKit
set_option linter.unusedVariables false

/-- a slice of n ints -/
def Ints (w : World) (A : Option Addr) (n : Nat) (p : Nat → Int) : Prop :=
  (∀ i, i < n → -9223372036854775808 ≤ p i ∧ p i ≤ 9223372036854775807) ∧ n ≤ maxLen ∧ (n = 0 ∨ ∃ g o t cs, A = some ⟨g, o, none⟩ ∧ Blk w g t cs ∧ (t == 49 || t == 70) = false ∧ ∀ i, i < n → cs[o + i]? = some (.int .i64 (p i)))
theorem Ints.keep {B : Nat} {w w' : World} {A : Option Addr} {n : Nat} {p : Nat → Int} (h : Ints w A n p) (hk : Keep B w w') : Ints w' A n p := by
  obtain ⟨h1, h2, h3⟩ := h
  refine ⟨h1, h2, ?_⟩
  rcases h3 with h3 | ⟨g, o, t, cs, h4, h5, h6, h7⟩
  · exact .inl h3
  · exact .inr ⟨g, o, t, cs, h4, hk.block h5 h6, h6, h7⟩
/-- which of those that wait a crash keeps -/
def odd (n : Nat) (p : Nat → Int) (i : Nat) : Bool := decide (i < n) && !decide ((p i).tmod 2 = 0)
def RS.crashed (s : RS) (P : Nat → Bool) : RS := { s.laid P with off := false, armed := false, left := 0 }
theorem RS.ok.crashed {s : RS} (h : s.ok) (P : Nat → Bool) : (s.crashed P).ok := by
  have := h.laid P
  exact ⟨this.nd1, this.nd2, this.ns1, this.ns2, Nat.zero_le _, this.cost, this.wp, this.lp⟩

theorem RackK.crashed3 {B : Nat} {w : World} {r m1 m2 k : Nat} {v : Value} {s : RS} (h : RackK B w r m1 m2 v s k) :
    RackK B (((w.setCell ⟨r, 21, none⟩ (.bool false)).setCell ⟨r, 22, none⟩ (.bool false)).setCell ⟨r, 23, none⟩ (.int .i64 0)) r m1 m2 v { s with off := false, armed := false, left := 0 } k := by
  have h1 : RackK B (w.setCell ⟨r, 21, none⟩ (.bool false)) r m1 m2 v { s with off := false } k := h.put (i := 21) (by omega) rfl (fun j hj hne => by unfold rackCell; simp [hne]) rfl rfl rfl rfl
  have h2 : RackK B ((w.setCell ⟨r, 21, none⟩ (.bool false)).setCell ⟨r, 22, none⟩ (.bool false)) r m1 m2 v { s with off := false, armed := false } k := h1.put (i := 22) (by omega) rfl (fun j hj hne => by unfold rackCell; simp [hne]) rfl rfl rfl rfl
  refine h2.put (i := 23) (by omega) rfl (fun j hj hne => ?_) rfl rfl rfl rfl
  unfold rackCell
  by_cases e1 : j = 21
  · subst e1; rfl
  by_cases e2 : j = 22
  · subst e2; rfl
  by_cases e3 : j < 21
  · simp [e3]
  · omega

set_option maxRecDepth 100000 in
set_option maxHeartbeats 1600000 in
theorem crash_any {B : Nat} (w : World) (r : Nat) (s1 : RS) (pa : Option Addr) (pn pc : Nat) (p : Nat → Int) (h : RackAt B w r s1) (hp : Ints w pa pn p) :
    Calls Tryd.prog 17 #[.pointer (some ⟨r, 0, none⟩), .slice pa pn pc] w fun e w' => e = .returned (.tuple #[]) ∧ RackAt B w' r (s1.crashed (odd pn p)) ∧ Keep B w w' := by
  obtain ⟨h0, m1, m2, v, hw⟩ := h
  have OK1 := Lib.hid h0
  have HW1 := Lib.hid hw
  have HP := Lib.hid hp
  clear h0 hw hp
  have c3 := HW1.out.c3
  have hcost := OK1.out.cost
  have hnw := HW1.out.nw_le
  obtain ⟨A, c, hv3⟩ : ∃ A c, v = .slice A s1.nw c := by
    rcases HW1.out.row.2 with ⟨rfl, e⟩ | ⟨g, cap, cur, rfl, _⟩
    · exact ⟨none, 0, by rw [e]⟩
    · exact ⟨_, _, rfl⟩
  subst hv3
  have hrowA : Hid (0 < s1.nw → ∃ g, A = some ⟨g, 0, none⟩) := by
    intro hn
    obtain ⟨g, cap, e⟩ := own_slice HW1.out.row hn
    injection e with e _
    exact ⟨g, e⟩
  have R : Hid (RackK B w r m1 m2 (.slice A s1.nw c) (s1.mid (odd pn p) 0) s1.nw) := Lib.hid HW1.out.atMid
  have K : Hid (Keep B w w) := Keep.refl B w
  clear HW1
  generalize hN : s1.nw = N at *
  have hpn : pn ≤ maxLen := HP.out.2.1
  unfold maxLen at hpn
  go_enter Tryd.func17, Tryd.ntmps17
  go_wp2_with fail
  go_loopw [13] (fun x wr => ∃ k : Nat, k ≤ N ∧ x = .int .i64 k ∧ Hid (RackK B wr r m1 m2 (.slice A N c) (s1.mid (odd pn p) k) N) ∧ Hid (Keep B w wr)) (fun x _ => N - (intOf x).toNat)
  case atStart => exact ⟨0, by omega, rfl, R, K⟩
  case round =>
    obtain ⟨k, hk, rfl, R1, K1⟩ := hrel
    clear R K c3
    by_cases hlt2 : k < N
    · obtain ⟨g, rfl⟩ := hrowA.out (by omega)
      have hld := load_row (W := s1.W) (g := g) (c := c) (n := N) (by have := R1.out.row; rw [← hN]; rw [← hN] at this; exact this) hlt2
      have i1 : (0 : Int) ≤ (k : Int) := by omega
      have i2 : (k : Int) < (N : Int) := by omega
      have HN := Lib.hid hN
      clear hN
      go_wp2_with (refine wpList_loadX rfl 70 _ rfl _ _ rfl hld ?_; refine of_hid ?_)
      refine Lib.hid ?_
      refine wpList_allocX rfl 70 rfl _ (alloc_waiting _) ?_
      refine wpList_assignX rfl _ rfl _ rfl ?_
      refine wpList_storeX rfl 70 (.tmp 5) (.tmp 17) rfl (.pointer (some ⟨wr.heap.size, 0, none⟩)) (.agg (waitA (s1.W k))) rfl rfl (store_newW wr ⟨0, 0, zeros⟩ (s1.W k)) ?_
      have hbx := Lib.hid (Blk.new wr 70 (waitA (s1.W k)))
      have R2 := Lib.hid (R1.out.alloc (.cells (waitA (s1.W k)) 70))
      have K2 := Lib.hid (K1.out.alloc R1.out.le (.cells (waitA (s1.W k)) 70))
      generalize wr.heap.size = bx at *
      clear R1 K1 hld
      generalize wr.alloc (.cells (waitA (s1.W k)) 70) = w2 at *
      obtain ⟨n, F, f1, f2, f3⟩ := R2.out.last
      have F1 := Lib.hid f1
      have F2 := Lib.hid f2
      have F3 := Lib.hid f3
      have hnm : n < maxLen := by
        have : n + s1.nw ≤ s1.cost + k := f1
        simp only [maxLen]
        have := HN.out
        omega
      have hwd : (s1.W k).d < 4611686018427387904 := by have := OK1.out.nd2; have := (OK1.out.wp k (by rw [HN.out]; exact hlt2)).1; omega
      have hwa : (s1.W k).a < 4611686018427387904 := by have := OK1.out.ns2; have := (OK1.out.wp k (by rw [HN.out]; exact hlt2)).2.1; omega
      clear f1 f2 f3
      have HS2 := Lib.hid (⟨R2.out.c2, hbx.out⟩ : LayS r m1 bx (waitA (s1.W k)) w2)
      have P2 := Lib.hid (HP.out.keep K2.out)
      by_cases hkp : k < pn
      rotate_left
      · have t1 : decide (k < pn) = false := by simp; omega
        have hodd : odd pn p k = false := by unfold odd; simp [hkp]
        have R3 : Hid (RackK B w2 r m1 m2 (.slice (some ⟨g, 0, none⟩) N c) (s1.mid (odd pn p) (k + 1)) N) := by
          rw [← HN.out]
          have R2' := R2.out
          rw [← HN.out] at R2'
          exact R2'.skipMid hodd
        clear hodd hkp
        go_wp2_with fail
        go_roundw
        case rel => exact ⟨k + 1, by omega, by go_num, R3, K2⟩
        case measure => simp [intOf]; omega
      have t1 : decide (k < pn) = true := by simp; omega
      obtain ⟨pg, po, pt, pcs, hpa, pb, _, pv⟩ := P2.out.2.2.resolve_left (by omega)
      subst hpa
      have pcell := (pb.cell (po + k)).trans (pv k hkp)
      have pbd := P2.out.1 k hkp
      have pb1 := pbd.1
      have pb2 := pbd.2
      have i3 : (k : Int) < (pn : Int) := by omega
      clear pb pv pbd
      by_cases hod : (p k).tmod 2 = 0
      · have hodd : odd pn p k = false := by unfold odd; simp [hod]
        have R3 : Hid (RackK B w2 r m1 m2 (.slice (some ⟨g, 0, none⟩) N c) (s1.mid (odd pn p) (k + 1)) N) := by
          rw [← HN.out]
          have R2' := R2.out
          rw [← HN.out] at R2'
          exact R2'.skipMid hodd
        clear hodd
        go_wp2_with fail
        go_roundw
        case rel => exact ⟨k + 1, by omega, by go_num, R3, K2⟩
        case measure => simp [intOf]; omega
      have hodd : odd pn p k = true := by unfold odd; simp [hod, hkp]
      have HO := Lib.hid hodd
      clear hodd
      go_wp2_with fail
      refine region_anyZ (LayS r m1 bx (waitA (s1.W k))) 8 (by kernel_rfl) ?_
      refine takeMove 0 (.tmp 0) (some 30) (.pointer (some ⟨r, 0, none⟩)) (by kernel_rfl) (by kernel_rfl) (by kernel_rfl) (fun _ _ _ h => h) HS2.out ?_
      refine takeNil 1 (.tmp 30) (some 31) ⟨r, 0, none⟩ (by kernel_rfl) (by kernel_rfl) (by kernel_rfl) (fun _ _ _ h => h) HS2.out ?_
      refine takeField 2 49 (.tmp 31) 2 (some 32) (.pointer (some ⟨r, 0, none⟩)) (.pointer (some ⟨r, 2, none⟩)) (by kernel_rfl) (by kernel_rfl) (by kernel_rfl) (fun w => by kernel_rfl) (fun _ _ _ h => h) HS2.out ?_
      refine takeLoad 3 44 (.tmp 32) (some 33) _ (.map (some m1)) (by kernel_rfl) (by kernel_rfl) (by kernel_rfl) (fun w hS => load_one Tryd.underlying44 rfl hS.1) (fun _ _ _ h => h) HS2.out ?_
      refine takeField 4 70 (.tmp 5) 0 (some 34) (.pointer (some ⟨bx, 0, none⟩)) (.pointer (some ⟨bx, 0, none⟩)) (by kernel_rfl) (by kernel_rfl) (by kernel_rfl) (fun w => by kernel_rfl) (fun _ _ _ h => h) HS2.out ?_
      refine takeLoad 5 62 (.tmp 34) (some 35) _ (pkey (s1.W k).d (s1.W k).a) (by kernel_rfl) (by kernel_rfl) (by kernel_rfl) (fun w hS => load_wplace hS.2) (fun _ _ _ h => h) HS2.out ?_
      refine takeField 6 70 (.tmp 5) 1 (some 36) (.pointer (some ⟨bx, 0, none⟩)) (.pointer (some ⟨bx, 2, none⟩)) (by kernel_rfl) (by kernel_rfl) (by kernel_rfl) (fun w => by kernel_rfl) (fun _ _ _ h => h) HS2.out ?_
      refine takeLoad 7 66 (.tmp 36) (some 37) _ (.agg (secA (s1.W k).x)) (by kernel_rfl) (by kernel_rfl) (by kernel_rfl) (fun w hS => load_wsector hS.2) (fun _ _ _ h => h) HS2.out ?_
      refine lastOp 8 (.mapUpdate 44 (.tmp 33) (.tmp 35) (.tmp 37)) none (by kernel_rfl) (by kernel_rfl) (by kernel_rfl) rfl ?_
      intro o ho hod
      refine wp_mapPut (.tmp 33) (.tmp 35) (.tmp 37) 44 66 ho Tryd.underlying44 m1 n F (by kernel_rfl) (F2.out.drew) hnm (s1.W k).d (s1.W k).a hwd hwa (.agg (secA (s1.W k).x)) (by kernel_rfl) (by kernel_rfl) (isSec_sec _) ?_
      rw [hod]
      clear hod ho
      intro w3 hm3 hg3 hs3
      have R3 : Hid (RackK B w3 r m1 m2 (.slice (some ⟨g, 0, none⟩) N c) (s1.mid (odd pn p) (k + 1)) N) := by
        rw [← HN.out]
        have R2' := R2.out
        rw [← HN.out] at R2'
        exact R2'.drew.layMid HO.out n F (F1.out) F3.out hg3 hm3
      have K3 : Hid (Keep B w w3) := K2.out.drew.ofMap1 R2.out.drew hg3
      clear hm3 hg3 hs3 R2 K2 HS2 F1 F2 F3 hbx
      go_wp2_with fail
      go_roundw
      case rel => exact ⟨k + 1, by omega, by go_num, R3, K3⟩
      case measure => simp [intOf]; omega
    · have e : k = N := by omega
      subst e
      have HN := Lib.hid hN
      clear hN
      have R0 := R1.out
      obtain ⟨n, F, f1, f2, f3⟩ := R0.last
      have hL : Hid (∃ n F, n ≤ s1.cost ∧ MapS wr m1 n F ∧ ∀ d a, d < 4611686018427387904 → a < 4611686018427387904 → (F d a).getD (.agg (secA zeros)) = .agg (secA ((s1.laid (odd pn p)).last d a))) := by
        refine ⟨n, F, ?_, f2, fun d a hd ha => ?_⟩
        · have : n + s1.nw ≤ s1.cost + k := f1
          have := HN.out
          omega
        · rw [f3 d a hd ha, ← HN.out]
          rfl
      clear R0 f1 f2 f3
      go_wp2_with fail
      refine (await_nil B _ r m1 (s1.mid (odd pn p) k) (s1.laid (odd pn p)) _ ⟨rfl, rfl, rfl, rfl, rfl, rfl⟩ m2 R1.out.blk R1.out.hr R1.out.h1 R1.out.ne1 rfl hL.out (OK1.out.laid _)).mono ?_
      rintro e w2 ⟨rfl, h2, k2⟩
      have K2 := Lib.hid (K1.out.trans k2)
      clear k2 R1 K1
      obtain ⟨_, n1, n2, v2, hw2⟩ := h2
      have c21 := hw2.c21
      have c22 := hw2.c22
      have c23 := hw2.c23
      have f21 := hw2.frozen 21
      have f22 := hw2.frozen 22
      have f23 := hw2.frozen 23
      have H4 := Lib.hid (hw2.crashed3)
      have K4 := Lib.hid (((K2.out.setRack hw2.blk hw2.hr 21 (.bool false)).setRack (hw2.blk.set_ 21 _) hw2.hr 22 (.bool false)).setRack ((hw2.blk.set_ 21 _).set_ 22 _) hw2.hr 23 (.int .i64 0))
      clear hw2
      go_wp2_with fail
      go_end0
      exact ⟨rfl, ⟨OK1.out.crashed _, n1, n2, v2, H4.out⟩, K4.out⟩
end Go.Proofs.YtikenhcglbfgpaaDoor
