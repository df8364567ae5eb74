/-
  'rack.Flush' by a contract. Conditions: the rack is one.
-/
import Derived.Test.YtlbmeaioiiflkaaRackLay
namespace Go.Proofs.Ytlbmeaioiiflkaa
open Go.RowKit
set_option linter.unusedVariables false

def RS.flushed (s : RS) : RS := s.laid (fun _ => true)

set_option maxRecDepth 100000 in
set_option maxHeartbeats 1600000 in
theorem flush_any {B : Nat} (w : World) (r : Nat) (s S' : RS) (E : Int) (h : RackAt B w r s) (hE : E = if s.pow then 0 else 16) (hS : S' = if s.pow then s.spent.flushed else s.spent) :
    Calls Try.prog 6 #[.pointer (some ⟨r, 0, none⟩)] w fun e w' => e = .returned (.int .i64 E) ∧ RackAt B w' r S' ∧ Keep B w w' := by
  have HE := Lib.hid hE
  have HS := Lib.hid hS
  clear hE hS
  obtain ⟨h0, m1, m2, v, hw⟩ := h
  have H0 := Lib.hid h0
  have HW := Lib.hid hw
  clear h0 hw
  go_enter Try.func6, Try.ntmps6
  go_wp2_with fail
  refine (powered_w _ r s H0.out HW.out).mono ?_
  rintro e w1 ⟨rfl, ⟨h1, hw1⟩, k1, g1⟩
  have K1 := Lib.hid k1
  have HW1 := Lib.hid hw1
  have OK1 := Lib.hid h1
  clear hw1 k1 g1 h1 HW
  by_cases hp : s.pow = true
  rotate_left
  · have hp' : s.pow = false := by simpa using hp
    rw [hp']
    have HP := Lib.hid hp'
    clear hp hp'
    go_wp2_with fail
    go_ret
    rw [HE.out, HS.out, HP.out]
    exact ⟨rfl, ⟨OK1.out, m1, m2, v, HW1.out⟩, K1.out⟩
  rw [hp]
  have EV : Hid (S' = s.spent.flushed ∧ E = 0) := Lib.hid ⟨by rw [HS.out, hp]; rfl, by rw [HE.out, hp]; rfl⟩
  clear hp HE HS
  generalize s.spent = s1 at *
  clear H0
  have c3 := HW1.out.c3
  have hcost := OK1.out.cost
  have hnw := HW1.out.nw_le
  obtain ⟨A, c, hv3⟩ : ∃ A c, v = .slice A s1.nw c := by
    rcases HW1.out.row.2 with ⟨rfl, e⟩ | ⟨g, cap, cur, rfl, _⟩
    · exact ⟨none, 0, by rw [e]⟩
    · exact ⟨_, _, rfl⟩
  subst hv3
  have hrowA : Hid (0 < s1.nw → ∃ g, A = some ⟨g, 0, none⟩) := by
    intro hn
    obtain ⟨g, cap, e⟩ := own_slice HW1.out.row hn
    injection e with e _
    exact ⟨g, e⟩
  have R : Hid (RackK B w1 r m1 m2 (.slice A s1.nw c) (s1.mid (fun _ => true) 0) s1.nw) := Lib.hid HW1.out.atMid
  have K : Hid (Keep B w w1) := K1
  clear HW1 K1
  generalize hN : s1.nw = N at *
  go_wp2_with fail
  go_loopw [15] (fun x wr => ∃ k : Nat, k ≤ N ∧ x = .int .i64 k ∧ Hid (RackK B wr r m1 m2 (.slice A N c) (s1.mid (fun _ => true) k) N) ∧ Hid (Keep B w wr)) (fun x _ => N - (intOf x).toNat)
  case atStart => exact ⟨0, by omega, rfl, R, K⟩
  case round =>
    obtain ⟨k, hk, rfl, R1, K1⟩ := hrel
    clear R K c3
    by_cases hlt2 : k < N
    · obtain ⟨g, rfl⟩ := hrowA.out (by omega)
      have hld := load_row (W := s1.W) (g := g) (c := c) (n := N) (by have := R1.out.row; rw [← hN]; rw [← hN] at this; exact this) hlt2
      have i1 : (0 : Int) ≤ (k : Int) := by omega
      have i2 : (k : Int) < (N : Int) := by omega
      have HN := Lib.hid hN
      clear hN
      go_wp2_with (refine wpList_loadX rfl 59 _ rfl _ _ rfl hld ?_; refine of_hid ?_)
      refine Lib.hid ?_
      refine wpList_allocX rfl 59 rfl _ (alloc_waiting _) ?_
      refine wpList_storeX rfl 59 (.tmp 4) (.tmp 18) rfl (.pointer (some ⟨wr.heap.size, 0, none⟩)) (.agg (waitA (s1.W k))) rfl rfl (store_newW wr ⟨0, 0, zeros⟩ (s1.W k)) ?_
      have hbx := Lib.hid (Blk.new wr 59 (waitA (s1.W k)))
      have R2 := Lib.hid (R1.out.alloc (.cells (waitA (s1.W k)) 59))
      have K2 := Lib.hid (K1.out.alloc R1.out.le (.cells (waitA (s1.W k)) 59))
      generalize wr.heap.size = bx at *
      clear R1 K1 hld
      generalize wr.alloc (.cells (waitA (s1.W k)) 59) = w2 at *
      obtain ⟨n, F, f1, f2, f3⟩ := R2.out.last
      have F1 := Lib.hid f1
      have F2 := Lib.hid f2
      have F3 := Lib.hid f3
      have hnm : n < maxLen := by
        have : n + s1.nw ≤ s1.cost + k := f1
        simp only [maxLen]
        have := HN.out
        omega
      have hw := OK1.out.wp k (by rw [HN.out]; exact hlt2)
      have hwd : (s1.W k).d < 4611686018427387904 := by have := OK1.out.nd2; omega
      have hwa : (s1.W k).a < 4611686018427387904 := by have := OK1.out.ns2; omega
      clear f1 f2 f3 hw
      have HS2 := Lib.hid (⟨R2.out.c2, hbx.out⟩ : LayS r m1 bx (waitA (s1.W k)) w2)
      go_wp2_with fail
      refine region_anyZ (LayS r m1 bx (waitA (s1.W k))) 8 (by kernel_rfl) ?_
      refine takeMove 0 (.tmp 0) (some 19) (.pointer (some ⟨r, 0, none⟩)) (by kernel_rfl) (by kernel_rfl) (by kernel_rfl) (fun _ _ _ h => h) HS2.out ?_
      refine takeNil 1 (.tmp 19) (some 20) ⟨r, 0, none⟩ (by kernel_rfl) (by kernel_rfl) (by kernel_rfl) (fun _ _ _ h => h) HS2.out ?_
      refine takeField 2 52 (.tmp 20) 2 (some 21) (.pointer (some ⟨r, 0, none⟩)) (.pointer (some ⟨r, 2, none⟩)) (by kernel_rfl) (by kernel_rfl) (by kernel_rfl) (fun w => by kernel_rfl) (fun _ _ _ h => h) HS2.out ?_
      refine takeLoad 3 47 (.tmp 21) (some 22) _ (.map (some m1)) (by kernel_rfl) (by kernel_rfl) (by kernel_rfl) (fun w hS => load_one Try.underlying47 rfl hS.1) (fun _ _ _ h => h) HS2.out ?_
      refine takeField 4 59 (.tmp 4) 0 (some 23) (.pointer (some ⟨bx, 0, none⟩)) (.pointer (some ⟨bx, 0, none⟩)) (by kernel_rfl) (by kernel_rfl) (by kernel_rfl) (fun w => by kernel_rfl) (fun _ _ _ h => h) HS2.out ?_
      refine takeLoad 5 54 (.tmp 23) (some 24) _ (pkey (s1.W k).d (s1.W k).a) (by kernel_rfl) (by kernel_rfl) (by kernel_rfl) (fun w hS => load_wplace hS.2) (fun _ _ _ h => h) HS2.out ?_
      refine takeField 6 59 (.tmp 4) 1 (some 25) (.pointer (some ⟨bx, 0, none⟩)) (.pointer (some ⟨bx, 2, none⟩)) (by kernel_rfl) (by kernel_rfl) (by kernel_rfl) (fun w => by kernel_rfl) (fun _ _ _ h => h) HS2.out ?_
      refine takeLoad 7 57 (.tmp 25) (some 26) _ (.agg (secA (s1.W k).x)) (by kernel_rfl) (by kernel_rfl) (by kernel_rfl) (fun w hS => load_wsector hS.2) (fun _ _ _ h => h) HS2.out ?_
      refine lastOp 8 (.mapUpdate 47 (.tmp 22) (.tmp 24) (.tmp 26)) none (by kernel_rfl) (by kernel_rfl) (by kernel_rfl) rfl ?_
      intro o ho hod
      refine wp_mapPut (.tmp 22) (.tmp 24) (.tmp 26) 47 57 ho Try.underlying47 m1 n F (by kernel_rfl) (F2.out.drew) hnm (s1.W k).d (s1.W k).a hwd hwa (.agg (secA (s1.W k).x)) (by kernel_rfl) (by kernel_rfl) (isSec_sec _) ?_
      rw [hod]
      clear hod ho
      intro w3 hm3 hg3 hs3
      have R3 : Hid (RackK B w3 r m1 m2 (.slice (some ⟨g, 0, none⟩) N c) (s1.mid (fun _ => true) (k + 1)) N) := by
        rw [← HN.out]
        have R2' := R2.out
        rw [← HN.out] at R2'
        exact R2'.drew.layMid rfl n F (F1.out) F3.out hg3 hm3
      have K3 : Hid (Keep B w w3) := K2.out.drew.ofMap1 R2.out.drew hg3
      clear hm3 hg3 hs3 R2 K2 HS2 F1 F2 F3 hbx
      go_wp2_with fail
      go_roundw
      case rel => exact ⟨k + 1, by omega, by go_num, R3, K3⟩
      case measure => simp [intOf]; omega
    · have e : k = N := by omega
      subst e
      have HN := Lib.hid hN
      clear hN
      have R0 := R1.out
      obtain ⟨n, F, f1, f2, f3⟩ := R0.last
      have hL : Hid (∃ n F, n ≤ s1.cost ∧ MapS wr m1 n F ∧ ∀ d a, d < 4611686018427387904 → a < 4611686018427387904 → (F d a).getD (.agg (secA zeros)) = .agg (secA (s1.flushed.last d a))) := by
        refine ⟨n, F, ?_, f2, fun d a hd ha => ?_⟩
        · have : n + s1.nw ≤ s1.cost + k := f1
          have := HN.out
          omega
        · rw [f3 d a hd ha, ← HN.out]
          rfl
      clear R0 f1 f2 f3
      go_wp2_with fail
      refine (await_nil B _ r m1 (s1.mid (fun _ => true) k) s1.flushed _ ⟨rfl, rfl, rfl, rfl, rfl, rfl⟩ m2 R1.out.blk R1.out.hr R1.out.h1 R1.out.ne1 rfl hL.out (OK1.out.laid _)).mono ?_
      rintro e w2 ⟨rfl, h2, k2⟩
      have H2 := Lib.hid h2
      have K2 := Lib.hid (K1.out.trans k2)
      clear h2 k2 R1 K1
      go_wp2_with fail
      go_ret
      rw [EV.out.1, EV.out.2]
      exact ⟨rfl, H2.out, K2.out⟩
end Go.Proofs.Ytlbmeaioiiflkaa
