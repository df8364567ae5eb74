/-
  The document's rack by contracts: Read. Conditions: the rack is one.
-/
import Derived.Test.YtlbmeaioiiflkaaRefKeep
import Derived.Test.YtlbmeaioiiflkaaRackRead
namespace Go.Proofs.Ytlbmeaioiiflkaa
open Go Go.RowKit
set_option maxRecDepth 100000
set_option linter.unusedVariables false
namespace refRack
section
variable {B : Nat} {w w' : World} {g : Nat} {s : RS} {vL vG vW : Value} {H C : Nat → Nat}
theorem read_no_k (w : World) (g : Nat) (s : RS) (D E : Int) (hd : s.deny D E ≠ 0) (h : TK B w g s vL vG vW H C) :
    Calls Try.prog 25 #[.pointer (some ⟨g, 0, none⟩), .int .i64 D, .int .i64 E] w fun e w' => e = .returned (.tuple #[.string ⟨#[]⟩, .int .i64 (s.deny D E)]) ∧ w' = w := by
  have HI := Lib.hid (in_k w g s D E h)
  cases hp : s.isP D E with
  | false =>
    rw [hp] at HI
    have hy : s.deny D E = 1 := by
      have e : s.why D E = 1 := by unfold RS.why; rw [hp]; rfl
      unfold RS.deny
      rw [e]
      rfl
    rw [hy]
    clear hp h hd hy
    go_enter Try.func25, Try.ntmps25
    go_wp2_with fail
    refine HI.out.mono ?_
    rintro e w' ⟨rfl, rfl⟩
    go_wp2_with fail
    go_ret2
    exact ⟨rfl, rfl⟩
  | true =>
    rw [hp] at HI
    obtain ⟨d, rfl, hdn⟩ : ∃ d : Nat, D = (d : Int) ∧ d < s.nd := by
      simp [RS.isP, RS.isD] at hp
      exact ⟨D.toNat, by omega, by omega⟩
    have c1 := h.c1
    have c3 := h.c3
    obtain ⟨l, c, rfl, k1, _⟩ := h.gone hdn
    have i0 : (0 : Int) ≤ (d : Int) := by omega
    have i1 : (d : Int) < (s.nd : Int) := by omega
    have hw : s.why (d : Int) E = if s.gone d then 3 else 0 := by unfold RS.why; rw [hp, if_pos rfl, Int.toNat_natCast]
    cases hg : s.gone d with
    | true =>
      rw [hg] at k1
      have hy : s.deny (d : Int) E = 3 := by
        rw [hg] at hw
        have hw : s.why (d : Int) E = 3 := hw
        unfold RS.deny
        rw [hw]
        rfl
      rw [hy]
      clear hp h hd hy hw hg c3 hdn
      go_enter Try.func25, Try.ntmps25
      go_wp2_with fail
      refine HI.out.mono ?_
      rintro e w' ⟨rfl, rfl⟩
      go_wp2_with fail
      go_ret2
      exact ⟨rfl, rfl⟩
    | false =>
      rw [hg] at k1
      have hw0 : s.why (d : Int) E = 0 := by rw [hw, hg]; rfl
      have ho : s.off = true := by
        cases e : s.off with
        | true => rfl
        | false =>
          exfalso
          apply hd
          unfold RS.deny
          rw [hw0, e]
          rfl
      have hy : s.deny (d : Int) E = 16 := by
        unfold RS.deny
        rw [hw0, ho]
        rfl
      rw [hy]
      rw [ho] at c3
      clear hp h hd hy hw hg hw0 ho hdn
      go_enter Try.func25, Try.ntmps25
      go_wp2_with fail
      refine HI.out.mono ?_
      rintro e w' ⟨rfl, rfl⟩
      go_wp2_with fail
      go_ret2
      exact ⟨rfl, rfl⟩
set_option maxHeartbeats 800000 in
theorem read_ok_k (w : World) (g : Nat) (s : RS) (d a : Nat) (hd : d < s.nd) (ha : a < s.ns) (hg : s.gone d = false) (ho : s.off = false) (h : TK B w g s vL vG vW H C) :
    Calls Try.prog 25 #[.pointer (some ⟨g, 0, none⟩), .int .i64 (d : Int), .int .i64 (a : Int)] w fun e w' => e = .returned (.tuple #[textV (s.holds d a), .int .i64 0]) ∧ w' = w := by
  have HI := Lib.hid (in_k w g s (d : Int) (a : Int) h)
  rw [show s.isP (d : Int) (a : Int) = true by simp [RS.isP, RS.isD]; omega] at HI
  have HN := Lib.hid (newest_k w g s d a h)
  have c0 := h.c0
  have c1 := h.c1
  have c2 := h.c2
  have c3 := h.c3
  rw [ho] at c3
  obtain ⟨l, c, rfl, k1, _⟩ := h.gone hd
  rw [hg] at k1
  obtain ⟨lh, ch, rfl, kh, _⟩ := h.head hd
  have kt := (h.text hd ha).1
  have i0 : (0 : Int) ≤ (d : Int) := by omega
  have i1 : (d : Int) < (s.nd : Int) := by omega
  have j0 : (0 : Int) ≤ (a : Int) := by omega
  have j1 : (a : Int) < (s.ns : Int) := by omega
  cases hn : newIn s.W d a s.nw with
  | none =>
    have hh : s.holds d a = s.last d a := by unfold RS.holds; rw [hn]
    rw [hn] at HN
    rw [hh]
    have t1 : idx (none : Option Nat) = -1 := rfl
    rw [t1] at HN
    generalize H d = hb at *
    generalize C d = cd at *
    clear h hd ha hg ho hn hh t1 c2
    go_enter Try.func25, Try.ntmps25
    go_wp2_with fail
    refine HI.out.mono ?_
    rintro e w' ⟨rfl, rfl⟩
    go_wp2_with fail
    refine HN.out.mono ?_
    rintro e w' ⟨rfl, rfl⟩
    go_wp2_with fail
    go_ret2
    exact ⟨rfl, rfl⟩
  | some i =>
    have hh : s.holds d a = (s.W i).x := by unfold RS.holds; rw [hn]
    rw [hn] at HN
    rw [hh]
    have t1 : idx (some i) = (i : Int) := rfl
    rw [t1] at HN
    have hin := (newIn_lt hn).1
    obtain ⟨lw, cw, rfl, _, _, kw⟩ := h.wait hin
    have z0 : (0 : Int) ≤ (i : Int) := by omega
    have z1 : (i : Int) < (s.nw : Int) := by omega
    clear h hd ha hg ho hn hh t1 kt kh c0 hin
    go_enter Try.func25, Try.ntmps25
    go_wp2_with fail
    refine HI.out.mono ?_
    rintro e w' ⟨rfl, rfl⟩
    go_wp2_with fail
    refine HN.out.mono ?_
    rintro e w' ⟨rfl, rfl⟩
    go_wp2_with fail
    go_ret2
    exact ⟨rfl, rfl⟩
end
end refRack
end Go.Proofs.Ytlbmeaioiiflkaa
