/-
  '(*field.Field).eliminate' by a contract. Conditions: the field is full, the matrix the call's own, the pivot not 0.
-/
import Derived.Test.YtlhjpceaookanaaGreatDoorFieldMatM
import Derived.Test.YtlhjpceaookanaaGreatDoorRackHasM
namespace Go.Proofs.YtlhjpceaookanaaGreatDoor
open Go.RowKit
set_option maxRecDepth 100000
set_option linter.unusedVariables false

theorem ready_full (b : Nat) (w : World) (hb : Blk w b 147 (fcells 1 0 255)) :
    Calls Tryz.prog 120 #[.pointer (some ⟨b, 0, none⟩)] w fun e w' => e = .returned (.pointer (some ⟨b, 0, none⟩)) ∧ w = w' := by
  have hmf : ∀ (fn : Fn) (first cap : Array Value) (w : World), (Instr.makeFunc fn first cap).run Tryz.prog w = .ok (.func fn first cap) w := fun _ _ _ _ => rfl
  have HB := Lib.hid hb
  clear hb
  go_enter Tryz.func120, Tryz.ntmps120
  go_wp2_with fail
  refine (do_again b _ _ HB.out).mono ?_
  rintro e w2 ⟨rfl, rfl⟩
  go_wp2_with fail
  go_ret
  exact ⟨rfl, rfl⟩
theorem full_ready {b : Nat} {w : World} (hb : Blk w b 147 (fcells 1 0 255)) : Ready (.pointer (some ⟨b, 0, none⟩)) b w (fun w' => w' = w) := by
  refine (ready_full b w hb).mono ?_
  rintro e w' ⟨rfl, rfl⟩
  exact ⟨rfl, hb, rfl⟩
theorem via_full {b : Nat} {w w' : World} (h : w = w' ∨ ∃ w2 n, w' = w2.drewN n ∧ Blk w2 b 147 (fcells 1 0 255) ∧ w2 = w) : ∃ n, w' = w.drewN n := by
  rcases h with rfl | ⟨w2, n, rfl, _, rfl⟩
  · exact ⟨0, rfl⟩
  · exact ⟨n, rfl⟩
theorem mul_full {b x y : Nat} (hx : x < 256) (hy : y < 256) {w : World} (hb : Blk w b 147 (fcells 1 0 255)) :
    Calls Tryz.prog 117 #[.pointer (some ⟨b, 0, none⟩), .int .u8 x, .int .u8 y] w fun e w' => e = .returned (.int .u8 (M.gmul x y : Nat)) ∧ ∃ n, w' = w.drewN n :=
  (mul_via _ b x y hx hy w _ (full_ready hb)).mono fun _ _ ⟨he, h⟩ => ⟨he, via_full h⟩
theorem inv_full {b x : Nat} (h0 : x ≠ 0) (hx : x < 256) {w : World} (hb : Blk w b 147 (fcells 1 0 255)) :
    Calls Tryz.prog 127 #[.pointer (some ⟨b, 0, none⟩), .int .u8 x] w fun e w' => e = .returned (.tuple #[.int .u8 (M.ginv x : Nat), .int .i64 0]) ∧ ∃ n, w' = w.drewN n := by
  have h := (inv_via _ b x hx w _ (full_ready hb)).mono fun _ _ ⟨he, h⟩ => (⟨he, via_full h⟩ : _ ∧ _)
  rw [if_neg h0, if_neg h0] at h
  exact h

def elim1 (m : Nat → Nat → Nat) (k iv c i j : Nat) : Nat := if i = k ∧ j < c then M.gmul (m k j) iv else m i j

/-- behind the row of the pivot, and i0 rows -/
def elim2 (m : Nat → Nat → Nat) (k iv i0 i j : Nat) : Nat := if i = k then M.gmul (m k j) iv else if i < i0 then m i j ^^^ M.gmul (m i k) (M.gmul (m k j) iv) else m i j
/-- behind c places of row i1 -/
def elim3 (m : Nat → Nat → Nat) (k iv i1 c i j : Nat) : Nat := if i = i1 ∧ j < c then m i1 j ^^^ M.gmul (m i1 k) (M.gmul (m k j) iv) else elim2 m k iv i1 i j
theorem elim1_step {w : World} {bo n k iv c : Nat} {R : Nat → Nat} {m : Nat → Nat → Nat} (h : Mat w bo n R (elim1 m k iv c)) (hk : k < n) (hc : c < n + 1) (j : Nat) {r q : Nat} (hr : R k = r) (hq : m k c = q) :
    Mat ((w.drewN j).setCell ⟨r, c, none⟩ (.int .u8 ((M.gmul q iv : Nat) : Int))) bo n R (elim1 m k iv (c + 1)) := by
  subst hr; subst hq
  refine ((h.drewN j).set_ hk (by omega)).congr fun a _ b _ => ?_
  unfold elim1
  by_cases e : a = k ∧ b = c
  · obtain ⟨rfl, rfl⟩ := e
    rw [if_pos ⟨rfl, rfl⟩, if_pos ⟨rfl, by omega⟩]
  · rw [if_neg e]
    by_cases e2 : a = k ∧ b < c
    · rw [if_pos e2, if_pos ⟨e2.1, by omega⟩]
    · rw [if_neg e2, if_neg (by omega)]
theorem elim1_done {w : World} {bo n k iv : Nat} {R : Nat → Nat} {m : Nat → Nat → Nat} (h : Mat w bo n R (elim1 m k iv (n + 1))) : Mat w bo n R (elim2 m k iv 0) :=
  h.congr fun a _ b hb => by
    unfold elim1 elim2
    by_cases e : a = k
    · subst e
      rw [if_pos ⟨rfl, by omega⟩, if_pos rfl]
    · rw [if_neg (fun x => e x.1), if_neg e, if_neg (by omega)]
theorem elim2_skip {w : World} {bo n k iv : Nat} {R : Nat → Nat} {m : Nat → Nat → Nat} (h : Mat w bo n R (elim2 m k iv k)) : Mat w bo n R (elim2 m k iv (k + 1)) :=
  h.congr fun a _ b hb => by
    unfold elim2
    by_cases e : a = k
    · rw [if_pos e, if_pos e]
    · rw [if_neg e, if_neg e]
      by_cases e2 : a < k
      · rw [if_pos e2, if_pos (by omega)]
      · rw [if_neg e2, if_neg (by omega)]
theorem elim3_start {w : World} {bo n k iv i : Nat} {R : Nat → Nat} {m : Nat → Nat → Nat} (h : Mat w bo n R (elim2 m k iv i)) : Mat w bo n R (elim3 m k iv i 0) :=
  h.congr fun a _ b hb => by unfold elim3; rw [if_neg (by omega)]
theorem elim3_done {w : World} {bo n k iv i : Nat} {R : Nat → Nat} {m : Nat → Nat → Nat} (h : Mat w bo n R (elim3 m k iv i (n + 1))) (hik : i ≠ k) : Mat w bo n R (elim2 m k iv (i + 1)) :=
  h.congr fun a _ b hb => by
    unfold elim3 elim2
    by_cases e : a = i
    · subst e
      rw [if_pos ⟨rfl, by omega⟩, if_neg hik, if_pos (by omega)]
    · rw [if_neg (fun x => e x.1)]
      by_cases e1 : a = k
      · rw [if_pos e1, if_pos e1]
      · rw [if_neg e1, if_neg e1]
        by_cases e2 : a < i
        · rw [if_pos e2, if_pos (by omega)]
        · rw [if_neg e2, if_neg (by omega)]
theorem elim3_step {w : World} {bo n k iv i c : Nat} {R : Nat → Nat} {m : Nat → Nat → Nat} (h : Mat w bo n R (elim3 m k iv i c)) (hi : i < n) (hc : c < n + 1) (j : Nat) {r x y : Nat} (hr : R i = r) (hx : m i c = x) (hy : M.gmul (m i k) (M.gmul (m k c) iv) = y) :
    Mat ((w.drewN j).setCell ⟨r, c, none⟩ (.int .u8 ((x ^^^ y : Nat) : Int))) bo n R (elim3 m k iv i (c + 1)) := by
  subst hr; subst hx; subst hy
  refine ((h.drewN j).set_ hi (by omega)).congr fun a _ b _ => ?_
  unfold elim3
  by_cases e : a = i ∧ b = c
  · obtain ⟨rfl, rfl⟩ := e
    rw [if_pos ⟨rfl, rfl⟩, if_pos ⟨rfl, by omega⟩]
  · rw [if_neg e]
    by_cases e2 : a = i ∧ b < c
    · rw [if_pos e2, if_pos ⟨e2.1, by omega⟩]
    · rw [if_neg e2, if_neg (by omega)]
theorem elim2_done {w : World} {bo n k iv : Nat} {R : Nat → Nat} {m : Nat → Nat → Nat} (h : Mat w bo n R (elim2 m k iv n)) (hiv : M.ginv (m k k) = iv) : Mat w bo n R (M.elim m k) :=
  h.congr fun a ha b hb => by
    unfold elim2 M.elim
    rw [hiv]
    by_cases e : a = k
    · rw [if_pos e, if_pos e]
    · rw [if_neg e, if_neg e, if_pos ha]

set_option maxRecDepth 100000 in
set_option maxHeartbeats 1600000 in
theorem elim_any (b bo n k : Nat) (R : Nat → Nat) (m : Nat → Nat → Nat) (w : World) (hn : n ≤ 8) (hk : k < n) (hb : Blk w b 147 (fcells 1 0 255)) (h : Mat w bo n R m) (hs : M.Small n m) (hne : m k k ≠ 0) :
    Calls Tryz.prog 124 #[.pointer (some ⟨b, 0, none⟩), .slice (some ⟨bo, 0, none⟩) n n, .int .i64 k] w fun e w' => e = .returned (.tuple #[]) ∧ Mat w' bo n R (M.elim m k) ∧ OnlyR n R w w' := by
  have H := Lib.hid h
  have HS := Lib.hid hs
  have HB := Lib.hid hb
  have HN := Lib.hid hne
  have c1 := h.headCell hk
  have c2 := h.cell (i := k) (j := k) hk (by omega)
  have c3 := hs k hk k (by omega)
  clear h hs hb hne
  generalize hv : m k k = v at *
  have HV := Lib.hid hv
  clear hv
  generalize hr : R k = r at *
  have HR := Lib.hid hr
  clear hr
  go_enter Tryz.func124, Tryz.ntmps124
  go_wp2_with fail
  refine (inv_full HN.out c3 HB.out).mono ?_
  rintro e w1 ⟨rfl, n1, rfl⟩
  go_wp2_with fail
  have hiv := M.ginv_lt v
  go_loopw [30] (fun x wr => ∃ c : Nat, c ≤ n + 1 ∧ x = .int .i64 c ∧ Hid (Mat wr bo n R (elim1 m k (M.ginv v) c)) ∧ Hid (OnlyR n R w wr)) (fun x _ => n + 1 - (intOf x).toNat)
  case atStart => exact ⟨0, by omega, rfl, (H.out.drewN _).congr fun i _ j _ => by unfold elim1; rw [if_neg (by omega)], (OnlyR.refl _ _ _).drewN _⟩
  case round =>
    obtain ⟨c, hc, rfl, H1, O1⟩ := hrel
    by_cases hlt : c < n + 1
    · have d1 := H1.out.headCell hk
      rw [HR.out] at d1
      have d2 := H1.out.cell (i := k) (j := c) hk (by omega)
      have d3 := H1.out.frozen hk c
      rw [HR.out] at d2 d3
      have B1 := Lib.hid (O1.out.blk HB.out (fun i hi => HB.out.ne_ (H.out.row i hi) (by decide)))
      have e1 := Lib.hid (show elim1 m k (M.ginv v) c k c = m k c from if_neg (by omega))
      rw [e1.out] at d2
      have hmk := HS.out k hk c (by omega)
      clear c1 c2
      generalize hq : m k c = q at *
      have HQ := Lib.hid hq
      clear hq
      go_wp2_with fail
      refine region_quiet_tail 16 (by kernel_rfl) (by kernel_rfl) ?_
      simp only [List.take_succ_cons, List.take_zero, List.drop_succ_cons, List.drop_zero]
      repeat (quiet_step ((go_at_call 117; exact Calls.quiet_of (mul_full hmk hiv (B1.out.drewN _)))))
      refine wpQuiet_nil ?_
      rintro _ ⟨nq, rfl⟩
      go_wp2_with fail
      have H2 : Hid (Mat ((wr.drewN nq).setCell ⟨r, c, none⟩ (.int .u8 ((M.gmul q (M.ginv v) : Nat) : Int))) bo n R (elim1 m k (M.ginv v) (c + 1))) := elim1_step H1.out hk hlt nq HR.out HQ.out
      have O2 : Hid (OnlyR n R w ((wr.drewN nq).setCell ⟨r, c, none⟩ (.int .u8 ((M.gmul q (M.ginv v) : Nat) : Int)))) := by
        have h := (O1.out.drewN nq).set_ hk c (.int .u8 ((M.gmul q (M.ginv v) : Nat) : Int))
        rw [HR.out] at h
        exact h
      go_roundw
      case rel => exact ⟨c + 1, by omega, by go_num, H2, O2⟩
      case measure => simp [intOf]; omega
    · have H2 := Lib.hid (elim1_done (show Mat wr bo n R (elim1 m k (M.ginv v) (n + 1)) by
        have e : c = n + 1 := by omega
        rw [← e]
        exact H1.out))
      have O2 := Lib.hid O1.out
      clear H1 O1 c1 c2
      go_wp2_with fail
      obtain ⟨wa, rfl⟩ : ∃ wa : World, wa = wr := ⟨_, rfl⟩
      go_loopw [52] (fun x wr => ∃ i : Nat, i ≤ n ∧ x = .int .i64 i ∧ Hid (Mat wr bo n R (elim2 m k (M.ginv v) i)) ∧ Hid (OnlyR n R w wr)) (fun x _ => n - (intOf x).toNat)
      case atStart => exact ⟨0, by omega, rfl, H2, O2⟩
      case round =>
        obtain ⟨i, hi, rfl, H3, O3⟩ := hrel
        clear H2 O2
        by_cases hlt : i < n
        · have d1 := H3.out.headCell hlt
          by_cases hik : i = k
          · subst hik
            have H4 := Lib.hid (elim2_skip H3.out)
            go_wp2_with fail
            go_roundw
            case rel => exact ⟨i + 1, by omega, by go_num, H4, O3⟩
            case measure => simp [intOf]; omega
          · have t1 : ((i : Int) == (k : Int)) = false := beq_eq_false_iff_ne.2 (by omega)
            have d2 := H3.out.cell (i := i) (j := k) hlt (by omega)
            have e1 := Lib.hid (show elim2 m k (M.ginv v) i i k = m i k by unfold elim2; rw [if_neg hik, if_neg (by omega)])
            rw [e1.out] at d2
            have hf := HS.out i hlt k (by omega)
            generalize hfq : m i k = f at *
            have HF := Lib.hid hfq
            clear hfq
            generalize hri : R i = ri at *
            have HRI := Lib.hid hri
            clear hri
            have H4 := Lib.hid (elim3_start H3.out)
            clear H3
            go_wp2_with fail
            obtain ⟨wb, rfl⟩ : ∃ wb : World, wb = wr := ⟨_, rfl⟩
            go_loopw [66] (fun x wr => ∃ c : Nat, c ≤ n + 1 ∧ x = .int .i64 c ∧ Hid (Mat wr bo n R (elim3 m k (M.ginv v) i c)) ∧ Hid (OnlyR n R w wr)) (fun x _ => n + 1 - (intOf x).toNat)
            case atStart => exact ⟨0, by omega, rfl, H4, O3⟩
            case round =>
              obtain ⟨c, hc, rfl, H5, O5⟩ := hrel
              clear H4 O3 d1 d2
              by_cases hlc : c < n + 1
              · have g1 := H5.out.headCell hk
                rw [HR.out] at g1
                have g2 := H5.out.cell (i := k) (j := c) hk (by omega)
                rw [HR.out] at g2
                have g3 := H5.out.cell (i := i) (j := c) hlt (by omega)
                have g4 := H5.out.frozen hlt c
                rw [HRI.out] at g3 g4
                have B5 := Lib.hid (O5.out.blk HB.out (fun i hi => HB.out.ne_ (H.out.row i hi) (by decide)))
                have e2 := Lib.hid (show elim3 m k (M.ginv v) i c k c = M.gmul (m k c) (M.ginv v) by unfold elim3 elim2; rw [if_neg (by omega), if_pos rfl])
                have e3 := Lib.hid (show elim3 m k (M.ginv v) i c i c = m i c by unfold elim3 elim2; rw [if_neg (by omega), if_neg hik, if_neg (by omega)])
                rw [e2.out] at g2
                rw [e3.out] at g3
                have hx := HS.out i hlt c (by omega)
                have hy := M.gmul_lt f (M.gmul (m k c) (M.ginv v))
                have hz := M.gmul_lt (m k c) (M.ginv v)
                clear e2 e3
                generalize hxq : m i c = x at *
                have HX := Lib.hid hxq
                clear hxq
                generalize hzq : M.gmul (m k c) (M.ginv v) = z at *
                have HZ := Lib.hid hzq
                clear hzq
                have xr := u8_xor_nat x (M.gmul f z) hx hy
                go_wp2_with fail
                refine region_quiet_tail 16 (by kernel_rfl) (by kernel_rfl) ?_
                simp only [List.take_succ_cons, List.take_zero, List.drop_succ_cons, List.drop_zero]
                repeat (quiet_step ((go_at_call 117; exact Calls.quiet_of (mul_full hf hz (B5.out.drewN _)))))
                refine wpQuiet_nil ?_
                rintro _ ⟨nq, rfl⟩
                go_wp2_with fail
                have H6 : Hid (Mat ((wr.drewN nq).setCell ⟨ri, c, none⟩ (.int .u8 ((x ^^^ M.gmul f z : Nat) : Int))) bo n R (elim3 m k (M.ginv v) i (c + 1))) :=
                  elim3_step H5.out hlt hlc nq HRI.out HX.out (by rw [HF.out, HZ.out])
                have O6 : Hid (OnlyR n R w ((wr.drewN nq).setCell ⟨ri, c, none⟩ (.int .u8 ((x ^^^ M.gmul f z : Nat) : Int)))) := by
                  have h := (O5.out.drewN nq).set_ hlt c (.int .u8 ((x ^^^ M.gmul f z : Nat) : Int))
                  rw [HRI.out] at h
                  exact h
                go_roundw
                case rel => exact ⟨c + 1, by omega, by go_num, H6, O6⟩
                case measure => simp [intOf]; omega
              · have H6 := Lib.hid (elim3_done (show Mat wr bo n R (elim3 m k (M.ginv v) i (n + 1)) by
                  have e : c = n + 1 := by omega
                  rw [← e]
                  exact H5.out) hik)
                have O6 := Lib.hid O5.out
                clear H5 O5
                go_wp2_with fail
                go_roundw
                case rel => exact ⟨i + 1, by omega, by go_num, H6, O6⟩
                case measure => simp [intOf]; omega
        · obtain rfl : i = n := by omega
          have H4 := Lib.hid (elim2_done H3.out (by rw [HV.out]))
          clear H3
          go_wp2_with fail
          go_end0
          exact ⟨rfl, H4.out, O3.out⟩
end Go.Proofs.YtlhjpceaookanaaGreatDoor
