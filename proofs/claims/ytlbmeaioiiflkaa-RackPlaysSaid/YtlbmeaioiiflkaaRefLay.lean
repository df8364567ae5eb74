/-
  The document's rack by contracts: Flush, Crash. Conditions: the rack is one; what waits has a place on it.
-/
import Derived.Test.YtlbmeaioiiflkaaRefLast
import Derived.Test.YtlbmeaioiiflkaaLawArgsM
namespace Go.Proofs.Ytlbmeaioiiflkaa
open Go Go.RowKit
set_option maxRecDepth 100000
set_option linter.unusedVariables false
namespace refRack
section
variable {B : Nat} {w w' : World} {g : Nat} {s : RS} {vL vG vW : Value} {H C : Nat → Nat}
/-- the places of what waits -/
def Places (s : RS) : Prop := ∀ i, i < s.nw → (s.W i).d < s.nd ∧ (s.W i).a < s.ns
theorem TK.setW (h : TK B w g s vL vG vW H C) {vW' : Value} {n' : Nat} {W' : Nat → Wt} (hw : (w.setCell ⟨g, 2, none⟩ vW').ownsRow B 75 3 vW' n' (waitL W' n')) :
    TK B (w.setCell ⟨g, 2, none⟩ vW') g { s with nw := n', W := W' } vL vG vW' H C := by
  have ok : ∀ {n c : Nat} {t : TypeId} {v : Value} {xs : List Value}, (t == 66) = false → w.ownsRow B t c v n xs → (w.setCell ⟨g, 2, none⟩ vW').ownsRow B t c v n xs := fun he h1 => own_keep h1 fun g1 hg1 => Below.heap_setCell w ⟨g, 2, none⟩ vW' g1 (fun e => own_not_blk h1 h.blk he (by rw [hg1]; exact congrArg some e))
  exact ⟨h.blk.set_ 2 vW', h.hg, ok rfl h.heads, fun d hd => ok rfl (h.rows d hd), h.apart, ok rfl h.lost, hw⟩
theorem TK.noW (h : TK B w g s vL vG vW H C) : TK B (w.setCell ⟨g, 2, none⟩ (.slice none 0 0)) g { s with nw := 0 } vL vG (.slice none 0 0) H C :=
  h.setW (W' := s.W) (n' := 0) ⟨rfl, .inl ⟨rfl, rfl⟩⟩
/-- behind k of those that wait -/
def layS (s : RS) (P : Nat → Bool) (k : Nat) : RS := { s with last := s.lay P k }
theorem layS_yes {s : RS} {P : Nat → Bool} {k : Nat} (hp : P k = true) : ({ layS s P k with last := fun d' a' => if d' = (s.W k).d ∧ a' = (s.W k).a then (s.W k).x else (layS s P k).last d' a' } : RS) = layS s P (k + 1) := by
  have e : (fun d' a' => if d' = (s.W k).d ∧ a' = (s.W k).a then (s.W k).x else s.lay P k d' a') = s.lay P (k + 1) := by
    funext d' a'
    show _ = if P k = true ∧ (s.W k).d = d' ∧ (s.W k).a = a' then (s.W k).x else s.lay P k d' a'
    by_cases e : d' = (s.W k).d ∧ a' = (s.W k).a
    · rw [if_pos e, if_pos ⟨hp, e.1.symm, e.2.symm⟩]
    · rw [if_neg e, if_neg (fun q => e ⟨q.2.1.symm, q.2.2.symm⟩)]
  show RS.mk s.nd s.ns (fun d' a' => if d' = (s.W k).d ∧ a' = (s.W k).a then (s.W k).x else s.lay P k d' a') s.nw s.W s.gone s.off s.armed s.left s.cost = RS.mk s.nd s.ns (s.lay P (k + 1)) s.nw s.W s.gone s.off s.armed s.left s.cost
  rw [e]
theorem layS_no {s : RS} {P : Nat → Bool} {k : Nat} (hp : P k = false) : layS s P k = layS s P (k + 1) := by
  have e : s.lay P k = s.lay P (k + 1) := by
    funext d' a'
    show _ = if P k = true ∧ (s.W k).d = d' ∧ (s.W k).a = a' then (s.W k).x else s.lay P k d' a'
    rw [if_neg (fun q => by rw [hp] at q; cases q.1)]
  show RS.mk s.nd s.ns (s.lay P k) s.nw s.W s.gone s.off s.armed s.left s.cost = RS.mk s.nd s.ns (s.lay P (k + 1)) s.nw s.W s.gone s.off s.armed s.left s.cost
  rw [e]
theorem lay_rest {s : RS} {P : Nat → Bool} {n : Nat} (hp : ∀ k, n ≤ k → P k = false) : ∀ k, s.lay P (n + k) = s.lay P n
  | 0 => rfl
  | k + 1 => by
    rw [← lay_rest hp k]
    funext d' a'
    show (if P (n + k) = true ∧ (s.W (n + k)).d = d' ∧ (s.W (n + k)).a = a' then (s.W (n + k)).x else s.lay P (n + k) d' a') = _
    rw [if_neg (fun q => by rw [hp (n + k) (by omega)] at q; cases q.1)]
set_option maxHeartbeats 1600000 in
theorem flush_k (w : World) (g : Nat) (s : RS) (hl : s.left ≤ 9223372036854775807) (hp : Places s) (h : TK B w g s vL vG vW H C) :
    Calls Try.prog 27 #[.pointer (some ⟨g, 0, none⟩)] w fun e w' => e = .returned (.int .i64 (if s.pow then 0 else 16)) ∧ TAt B w' g (if s.pow then s.spent.flushed else s.spent) ∧ KeepR B w w' := by
  have hs := spend_k w g s hl h
  obtain ⟨q1, q2, q3, q4, q5, q6, q7⟩ := spent_same s
  have HP : Hid (Places s.spent) := Lib.hid fun i hi => by rw [q1, q2, q4]; exact hp i (by rw [← q3]; exact hi)
  clear hp q1 q2 q3 q4 q5 q6 q7
  generalize s.spent = s1 at *
  cases hpow : s.pow with
  | false =>
    rw [hpow] at hs
    have HS := Lib.hid hs
    clear hs h hpow
    go_enter Try.func27, Try.ntmps27
    go_wp2_with fail
    refine HS.out.mono ?_
    rintro e w1 ⟨rfl, h1, k1⟩
    have H1 := Lib.hid h1
    have K1 := Lib.hid k1
    clear h1 k1 HS
    go_wp2_with fail
    go_ret
    exact ⟨rfl, ⟨_, _, _, _, _, H1.out⟩, K1.out⟩
  | true =>
    rw [hpow] at hs
    have HS := Lib.hid hs
    clear hs h hpow
    go_enter Try.func27, Try.ntmps27
    go_wp2_with fail
    refine HS.out.mono ?_
    rintro e w1 ⟨rfl, h1, k1⟩
    have hm := h1.nw_le
    unfold maxLen at hm
    have H1 : Hid (TK B w1 g (layS s1 (fun _ => true) 0) vL vG vW H C) := Lib.hid h1
    have K1 := Lib.hid k1
    obtain ⟨A, c, rfl, _⟩ := h1.shapeW
    clear h1 k1 HS
    obtain ⟨m, hmn⟩ : ∃ m, m = s1.nw := ⟨_, rfl⟩
    rw [← hmn] at hm
    have HM := Lib.hid hmn
    clear hmn
    go_wp2_with fail
    go_loopw [3] (fun x wr => ∃ i : Nat, i ≤ m ∧ x = .int .i64 i ∧ Hid (TK B wr g (layS s1 (fun _ => true) i) vL vG (.slice A s1.nw c) H C) ∧ Hid (KeepR B w wr)) (fun x _ => m - (intOf x).toNat)
    case atStart => exact ⟨0, by omega, rfl, H1, K1⟩
    case round =>
      obtain ⟨i, hi, rfl, H2, K2⟩ := hrel
      clear H1 K1
      have c2 := H2.out.c2
      rw [← HM.out] at c2
      by_cases hlt : i < m
      · have i1 : (i : Int) < (m : Int) := by omega
        have i0 : (0 : Int) ≤ (i : Int) := by omega
        have hpl := HP.out i (by rw [← HM.out]; exact hlt)
        obtain ⟨l, c', e, k0, k1, k2⟩ := H2.out.wait (i := i) (by show i < s1.nw; rw [← HM.out]; exact hlt)
        injection e with e _ e2
        subst e
        have HL := Lib.hid (fun W (hk : TK B W g (layS s1 (fun _ => true) i) vL vG (.slice (some ⟨l, 0, none⟩) s1.nw c) H C) => last_k W g _ (s1.W i).d (s1.W i).a (s1.W i).x hk hpl.1 hpl.2)
        change wr.cell? _ = some (.int .i64 ((s1.W i).d : Int)) at k0
        change wr.cell? _ = some (.int .i64 ((s1.W i).a : Int)) at k1
        change wr.cell? _ = some (textV (s1.W i).x) at k2
        clear hpl e2
        go_wp2_with fail
        refine (HL.out wr H2.out).mono ?_
        rintro e w3 ⟨rfl, h3, k3⟩
        have H3 : Hid (TK B w3 g (layS s1 (fun _ => true) (i + 1)) vL vG (.slice (some ⟨l, 0, none⟩) s1.nw c) H C) := Lib.hid (by rw [← layS_yes (s := s1) (P := fun _ => true) (k := i) rfl]; exact h3)
        have K3 := Lib.hid (K2.out.trans k3)
        clear h3 k3 H2 K2 k0 k1 k2 c2 HL
        go_wp2_with fail
        go_roundw
        case rel => exact ⟨i + 1, by omega, by go_num, H3, K3⟩
        case measure => simp [intOf]; omega
      · obtain rfl : m = i := by omega
        have f2 := H2.out.frozen 2
        have H3 := Lib.hid H2.out.noW
        have K3 := Lib.hid (K2.out.put H2.out 2 (.slice none 0 0))
        have hm2 := HM.out
        clear hlt hi H2 K2
        go_wp2_with fail
        go_ret
        have h : TK B (wr.setCell ⟨g, 2, none⟩ (.slice none 0 0)) g s1.flushed vL vG (.slice none 0 0) H C := by
          have h := H3.out
          rw [hm2] at h
          exact h
        exact ⟨rfl, ⟨_, _, _, _, _, h⟩, K3.out⟩
end
end refRack
end Go.Proofs.Ytlbmeaioiiflkaa
