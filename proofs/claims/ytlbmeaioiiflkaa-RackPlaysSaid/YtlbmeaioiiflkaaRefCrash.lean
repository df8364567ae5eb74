/-
  The document's rack by contracts: Crash. Conditions: the rack is one; what waits has a place on it; the picks read as numbers below block B.
-/
import Derived.Test.YtlbmeaioiiflkaaRefLay
namespace Go.Proofs.Ytlbmeaioiiflkaa
open Go Go.RowKit
set_option maxRecDepth 100000
set_option linter.unusedVariables false
namespace refRack
section
variable {B : Nat} {w w' : World} {g : Nat} {s : RS} {vL vG vW : Value} {H C : Nat → Nat}
theorem TK.crashed3 (h : TK B w g s vL vG vW H C) :
    TK B (((w.setCell ⟨g, 2, none⟩ (.slice none 0 0)).setCell ⟨g, 3, none⟩ (.bool false)).setCell ⟨g, 4, none⟩ (.int .i64 (-1))) g { s with nw := 0, off := false, armed := false, left := 0 } vL vG (.slice none 0 0) H C := by
  have h1 := h.noW
  have h2 := h1.power (i := 3) (u := .bool false) (off := false) (armed := s.armed) (left := s.left) rfl
  exact h2.power (i := 4) (u := .int .i64 (-1)) (off := false) (armed := false) (left := 0) rfl
set_option maxHeartbeats 1600000 in
theorem crash_k (w : World) (g : Nat) (s : RS) (pa : Option Addr) (pn pc : Nat) (p : Nat → Int) (hp : Places s) (hi : RdI w B pa pn p) (h : TK B w g s vL vG vW H C) :
    Calls Try.prog 14 #[.pointer (some ⟨g, 0, none⟩), .slice pa pn pc] w fun e w' => e = .returned (.tuple #[]) ∧ TAt B w' g (s.crashed (odd pn p)) ∧ KeepR B w w' := by
  have HP := Lib.hid hp
  have HI := Lib.hid hi
  have hm := h.nw_le
  unfold maxLen at hm
  have H1 : Hid (TK B w g (layS s (odd pn p) 0) vL vG vW H C) := Lib.hid h
  have K1 := Lib.hid (KeepR.refl B w)
  obtain ⟨A, c, rfl, _⟩ := h.shapeW
  clear h hp hi
  obtain ⟨m, hmn⟩ : ∃ m, m = s.nw := ⟨_, rfl⟩
  rw [← hmn] at hm
  have HM := Lib.hid hmn
  clear hmn
  go_enter Try.func14, Try.ntmps14
  go_wp2_with fail
  go_loopw [4] (fun x wr => ∃ i : Nat, i ≤ m ∧ x = .int .i64 i ∧ Hid (TK B wr g (layS s (odd pn p) i) vL vG (.slice A s.nw c) H C) ∧ Hid (KeepR B w wr)) (fun x _ => m - (intOf x).toNat)
  case atStart => exact ⟨0, by omega, rfl, H1, K1⟩
  case round =>
    obtain ⟨i, hi, rfl, H2, K2⟩ := hrel
    clear H1 K1
    have c2 := H2.out.c2
    rw [← HM.out] at c2
    by_cases hgo : i < m ∧ i < pn
    · obtain ⟨hlt, hpn⟩ := hgo
      have t1 : decide (i < m) = true := by simpa using hlt
      have t2 : decide (i < pn) = true := by simpa using hpn
      have i1 : (i : Int) < (m : Int) := by omega
      have i0 : (0 : Int) ≤ (i : Int) := by omega
      have i2 : (i : Int) < (pn : Int) := by omega
      obtain ⟨pb, po, rfl, hpB, hpc, _⟩ := HI.out i hpn
      have cp := (K2.out.below.cell (p := ⟨pb, po + i, none⟩) hpB).trans hpc
      clear hpc
      by_cases hodd : (p i).tmod 2 = 0
      · have t3 : ((p i).tmod 2 != 0) = false := by rw [hodd]; rfl
        have hP : odd pn p i = false := by unfold odd; simp [hodd]
        have H3 : Hid (TK B wr g (layS s (odd pn p) (i + 1)) vL vG (.slice A s.nw c) H C) := Lib.hid (by rw [← layS_no hP]; exact H2.out)
        clear H2 hodd hP
        generalize p i = y at cp t3
        go_wp2_with fail
        go_roundw
        case rel => exact ⟨i + 1, by omega, by go_num, H3, K2⟩
        case measure => simp [intOf]; omega
      · have t3 : ((p i).tmod 2 != 0) = true := by simpa using hodd
        have hP : odd pn p i = true := by unfold odd; simp [hodd, hpn]
        have HPI := Lib.hid hP
        have hpl := HP.out i (by rw [← HM.out]; exact hlt)
        obtain ⟨l, c', e, k0, k1, k2⟩ := H2.out.wait (i := i) (by show i < s.nw; rw [← HM.out]; exact hlt)
        injection e with e _ e2
        subst e
        have HL := Lib.hid (fun W (hk : TK B W g (layS s (odd pn p) i) vL vG (.slice (some ⟨l, 0, none⟩) s.nw c) H C) => last_k W g _ (s.W i).d (s.W i).a (s.W i).x hk hpl.1 hpl.2)
        change wr.cell? _ = some (.int .i64 ((s.W i).d : Int)) at k0
        change wr.cell? _ = some (.int .i64 ((s.W i).a : Int)) at k1
        change wr.cell? _ = some (textV (s.W i).x) at k2
        clear hpl e2 hodd hP
        generalize p i = y at cp t3
        go_wp2_with fail
        refine (HL.out wr H2.out).mono ?_
        rintro e w3 ⟨rfl, h3, k3⟩
        have H3 : Hid (TK B w3 g (layS s (odd pn p) (i + 1)) vL vG (.slice (some ⟨l, 0, none⟩) s.nw c) H C) := Lib.hid (by rw [← layS_yes (s := s) (P := odd pn p) (k := i) HPI.out]; exact h3)
        have K3 := Lib.hid (K2.out.trans k3)
        clear h3 k3 H2 K2 k0 k1 k2 c2 HL cp
        go_wp2_with fail
        go_roundw
        case rel => exact ⟨i + 1, by omega, by go_num, H3, K3⟩
        case measure => simp [intOf]; omega
    · have hlay : s.lay (odd pn p) i = s.lay (odd pn p) s.nw := by
        by_cases e : i = m
        · rw [e, HM.out]
        · have hr := lay_rest (s := s) (P := odd pn p) (n := i) (fun k hk => by unfold odd; rw [decide_eq_false (by omega)]; rfl) (m - i)
          rw [show i + (m - i) = m by omega] at hr
          rw [← HM.out, hr]
      have h3 : TK B (((wr.setCell ⟨g, 2, none⟩ (.slice none 0 0)).setCell ⟨g, 3, none⟩ (.bool false)).setCell ⟨g, 4, none⟩ (.int .i64 (-1))) g (s.crashed (odd pn p)) vL vG (.slice none 0 0) H C := by
        have h := H2.out.crashed3
        unfold layS at h
        rw [hlay] at h
        exact h
      have k3 : KeepR B w (((wr.setCell ⟨g, 2, none⟩ (.slice none 0 0)).setCell ⟨g, 3, none⟩ (.bool false)).setCell ⟨g, 4, none⟩ (.int .i64 (-1))) := by
        have q1 := H2.out.noW
        have q2 := q1.power (i := 3) (u := .bool false) (off := false) (armed := s.armed) (left := s.left) rfl
        exact ((K2.out.put H2.out 2 (.slice none 0 0)).put q1 3 (.bool false)).put q2 4 (.int .i64 (-1))
      have H3 := Lib.hid h3
      have K3 := Lib.hid k3
      have f2 := H2.out.frozen 2
      have f3 := H2.out.frozen 3
      have f4 := H2.out.frozen 4
      have c3 := H2.out.c3
      have c4 := H2.out.c4
      clear h3 k3 hlay H2 K2
      by_cases hlt : i < m
      · have t1 : decide (i < m) = true := by simpa using hlt
        have t2 : decide (i < pn) = false := by simp; omega
        clear hgo
        go_wp2_with fail
        go_end0
        exact ⟨rfl, ⟨_, _, _, _, _, H3.out⟩, K3.out⟩
      · have t1 : decide (i < m) = false := by simpa using hlt
        clear hgo
        go_wp2_with fail
        go_end0
        exact ⟨rfl, ⟨_, _, _, _, _, H3.out⟩, K3.out⟩
end
end refRack
end Go.Proofs.Ytlbmeaioiiflkaa
