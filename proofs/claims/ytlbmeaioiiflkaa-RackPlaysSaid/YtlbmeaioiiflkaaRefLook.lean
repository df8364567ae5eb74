/-
  The document's rack by contracts: Is, in, newest, Read, Arm, spend. Conditions: the rack is one; a drive at least, a sector at least.
-/
import Derived.Test.YtlbmeaioiiflkaaRefMem
import Derived.Test.YtlbmeaioiiflkaaRackNew
namespace Go.Proofs.Ytlbmeaioiiflkaa
open Go Go.RowKit
set_option maxRecDepth 100000
set_option linter.unusedVariables false
namespace refRack
def idx (o : Option Nat) : Int := match o with | some i => (i : Int) | none => -1
section
variable {B : Nat} {w w' : World} {g : Nat} {s : RS} {vL vG vW : Value} {H C : Nat → Nat}
theorem TK.shapeL' (h : TK B w g s vL vG vW H C) : ∃ A c, vL = .slice A s.nd c := by
  rcases h.heads.2 with ⟨e, e2⟩ | ⟨l, cap, cur, e, _⟩
  · exact ⟨none, 0, by rw [e, e2]⟩
  · exact ⟨_, cap, e⟩
theorem TK.head (h : TK B w g s vL vG vW H C) {d : Nat} (hd : d < s.nd) : ∃ l c, vL = .slice (some ⟨l, 0, none⟩) s.nd c ∧ w.cell? ⟨l, d, none⟩ = some (.slice (some ⟨H d, 0, none⟩) s.ns (C d)) ∧ w.frozen? ⟨l, d, none⟩ = false := by
  obtain ⟨l, c, rfl⟩ := h.shapeL (by omega)
  exact ⟨l, c, rfl, by rw [h.heads.cellAt d (by omega), headL_get _ _ hd], h.heads.frozenAt d⟩
theorem TK.text (h : TK B w g s vL vG vW H C) {d a : Nat} (hd : d < s.nd) (ha : a < s.ns) : w.cell? ⟨H d, a, none⟩ = some (textV (s.last d a)) ∧ w.frozen? ⟨H d, a, none⟩ = false := by
  exact ⟨by rw [(h.rows d hd).cellAt a (by omega), textL_get _ ha], (h.rows d hd).frozenAt a⟩
theorem TK.gone (h : TK B w g s vL vG vW H C) {d : Nat} (hd : d < s.nd) : ∃ l c, vG = .slice (some ⟨l, 0, none⟩) s.nd c ∧ w.cell? ⟨l, d, none⟩ = some (.bool (s.gone d)) ∧ w.frozen? ⟨l, d, none⟩ = false := by
  obtain ⟨l, c, rfl⟩ := h.shapeG (by omega)
  exact ⟨l, c, rfl, by rw [h.lost.cellAt d (by omega), boolL_get _ hd], h.lost.frozenAt d⟩
theorem TK.wait (h : TK B w g s vL vG vW H C) {i : Nat} (hi : i < s.nw) : ∃ l c, vW = .slice (some ⟨l, 0, none⟩) s.nw c ∧ w.cell? ⟨l, i * 3, none⟩ = some (.int .i64 ((s.W i).d : Int)) ∧ w.cell? ⟨l, i * 3 + 1, none⟩ = some (.int .i64 ((s.W i).a : Int)) ∧ w.cell? ⟨l, i * 3 + 2, none⟩ = some (textV (s.W i).x) := by
  obtain ⟨A, c, rfl, hA⟩ := h.shapeW
  obtain ⟨l, rfl⟩ := hA (by omega)
  refine ⟨l, c, rfl, ?_, ?_, ?_⟩
  · rw [h.waits.cellAt (i * 3) (by omega)]
    exact waitL_get s.W (j := 0) (by omega) hi
  · rw [h.waits.cellAt (i * 3 + 1) (by omega)]
    exact waitL_get s.W (j := 1) (by omega) hi
  · rw [h.waits.cellAt (i * 3 + 2) (by omega)]
    exact waitL_get s.W (j := 2) (by omega) hi
theorem TK.nw_le (h : TK B w g s vL vG vW H C) : s.nw ≤ maxLen := by
  rcases h.waits.2 with ⟨_, e⟩ | ⟨l, cap, cur, e, _, _, h1, h2, _⟩
  · omega
  · omega
theorem is_k (w : World) (g : Nat) (s : RS) (D : Int) (h : TK B w g s vL vG vW H C) :
    Calls Try.prog 35 #[.pointer (some ⟨g, 0, none⟩), .int .i64 D] w fun e w' => e = .returned (.bool (s.isD D)) ∧ w' = w := by
  obtain ⟨A, c, rfl⟩ := h.shapeL'
  have c0 := h.c0
  clear h
  by_cases h1 : 0 ≤ D
  · have t1 : decide (0 ≤ D) = true := by simpa using h1
    go_enter Try.func35, Try.ntmps35
    go_wp2_with fail
    go_ret
    simp [RS.isD, h1]
  · have t1 : decide (0 ≤ D) = false := by simpa using h1
    go_enter Try.func35, Try.ntmps35
    go_wp2_with fail
    go_ret
    simp [RS.isD, h1]
    intro q
    omega
theorem in_k (w : World) (g : Nat) (s : RS) (D E : Int) (h : TK B w g s vL vG vW H C) :
    Calls Try.prog 42 #[.pointer (some ⟨g, 0, none⟩), .int .i64 D, .int .i64 E] w fun e w' => e = .returned (.bool (s.isP D E)) ∧ w' = w := by
  have hi := is_k w g s D h
  by_cases h1 : s.isD D = true
  · rw [h1] at hi
    have HI := Lib.hid hi
    have hn : 0 < s.nd := by simp [RS.isD] at h1; omega
    obtain ⟨l, c, rfl, c1, _⟩ := h.head hn
    have c0 := h.c0
    by_cases h2 : 0 ≤ E
    · have t2 : decide (0 ≤ E) = true := by simpa using h2
      have z1 : (0 : Int) < (s.nd : Int) := by omega
      clear h hi
      go_enter Try.func42, Try.ntmps42
      go_wp2_with fail
      refine HI.out.mono ?_
      rintro e w' ⟨rfl, rfl⟩
      go_wp2_with fail
      go_ret
      simp [RS.isP, h1, h2]
    · have t2 : decide (0 ≤ E) = false := by simpa using h2
      clear h hi
      go_enter Try.func42, Try.ntmps42
      go_wp2_with fail
      refine HI.out.mono ?_
      rintro e w' ⟨rfl, rfl⟩
      go_wp2_with fail
      go_ret
      simp [RS.isP, h1, h2]
      intro q
      omega
  · have h1' : s.isD D = false := by simpa using h1
    rw [h1'] at hi
    have HI := Lib.hid hi
    clear h hi
    go_enter Try.func42, Try.ntmps42
    go_wp2_with fail
    refine HI.out.mono ?_
    rintro e w' ⟨rfl, rfl⟩
    go_wp2_with fail
    go_ret
    simp [RS.isP, h1']
set_option maxHeartbeats 1600000 in
theorem newest_k (w : World) (g : Nat) (s : RS) (d a : Nat) (h : TK B w g s vL vG vW H C) :
    Calls Try.prog 43 #[.pointer (some ⟨g, 0, none⟩), .int .i64 (d : Int), .int .i64 (a : Int)] w fun e w' => e = .returned (.int .i64 (idx (newIn s.W d a s.nw))) ∧ w' = w := by
  have HK := Lib.hid h
  have hm := h.nw_le
  unfold maxLen at hm
  obtain ⟨A, c, rfl, _⟩ := h.shapeW
  have c2 := h.c2
  clear h
  obtain ⟨m, hmn⟩ : ∃ m, m = s.nw := ⟨_, rfl⟩
  rw [← hmn] at hm c2 ⊢
  have HM := Lib.hid hmn
  clear hmn
  go_enter Try.func43, Try.ntmps43
  go_wp2_with fail
  go_loopw [7, 8] (fun o x wr => ∃ i : Nat, i ≤ m ∧ x = .int .i64 i ∧ o = .int .i64 (idx (newIn s.W d a i)) ∧ wr = w) (fun _ x _ => m - (intOf x).toNat)
  case atStart => exact ⟨0, by omega, rfl, rfl, rfl⟩
  case round =>
    obtain ⟨i, hi, rfl, rfl, rfl⟩ := hrel
    by_cases hlt : i < m
    rotate_left
    · obtain rfl : m = i := by omega
      clear hlt
      go_wp2_with fail
      go_ret
      exact ⟨rfl, rfl⟩
    have i1 : (i : Int) < (m : Int) := by omega
    have i0 : (0 : Int) ≤ (i : Int) := by omega
    obtain ⟨l, c', e, k0, k1, _⟩ := HK.out.wait (i := i) (by have := HM.out; omega)
    rw [← HM.out] at e
    injection e with e _ e2
    subst e
    have hsucc := newIn_succ s.W d a i
    obtain ⟨wd, hwd⟩ : ∃ wd, wd = (s.W i).d := ⟨_, rfl⟩
    obtain ⟨wa, hwa⟩ : ∃ wa, wa = (s.W i).a := ⟨_, rfl⟩
    rw [← hwd, ← hwa] at hsucc
    rw [← hwd] at k0
    rw [← hwa] at k1
    clear hwd hwa e2
    by_cases h1 : wd = d
    · have t1 : ((wd : Int) == (d : Int)) = true := by simp; omega
      by_cases h2 : wa = a
      · have t2 : ((wa : Int) == (a : Int)) = true := by simp; omega
        rw [if_pos ⟨h1, h2⟩] at hsucc
        have HSU := Lib.hid hsucc
        clear hsucc h1 h2
        go_wp2_with fail
        go_roundw
        case rel => exact ⟨i + 1, by omega, by go_num, by rw [HSU.out]; rfl, trivial⟩
        case measure => simp [intOf]; omega
      · have t2 : ((wa : Int) == (a : Int)) = false := by simp; omega
        rw [if_neg (fun x => h2 x.2)] at hsucc
        have HSU := Lib.hid hsucc
        clear hsucc h1 h2
        go_wp2_with fail
        go_roundw
        case rel => exact ⟨i + 1, by omega, by go_num, by rw [HSU.out], trivial⟩
        case measure => simp [intOf]; omega
    · have t1 : ((wd : Int) == (d : Int)) = false := by simp; omega
      rw [if_neg (fun x => h1 x.1)] at hsucc
      have HSU := Lib.hid hsucc
      clear hsucc h1
      go_wp2_with fail
      go_roundw
      case rel => exact ⟨i + 1, by omega, by go_num, by rw [HSU.out], trivial⟩
      case measure => simp [intOf]; omega
end
end refRack
end Go.Proofs.Ytlbmeaioiiflkaa
