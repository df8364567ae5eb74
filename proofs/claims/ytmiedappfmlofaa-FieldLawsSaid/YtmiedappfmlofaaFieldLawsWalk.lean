/-
  The walk of 'FieldLaws': the laws of the field's product.
-/
import Derived.Test.YtmiedappfmlofaaFieldMul
import Derived.Test.YtmiedappfmlofaaFieldU8
namespace Go.Proofs.Ytmiedappfmlofaa
open Go.RowKit

namespace fieldLaws
set_option maxRecDepth 100000 in
set_option maxHeartbeats 1600000 in
theorem core (a b c p q s d t u : Nat) (ha : a < 256) (hb : b < 256) (hc : c < 256) (hp : p < 256) (hq : q < 256) (hd : d < 256) (w : World)
    (e1 : Hid (M.gmul b c = p)) (e2 : Hid (M.gmul a p = s)) (e3 : Hid (M.gmul a b = q)) (e4 : Hid (M.gmul q c = s)) (e5 : Hid (M.gmul b a = q)) (e6 : Hid (M.gmul a d = t)) (e7 : Hid (M.gmul a c = u)) (e8 : Hid (M.gmul a 1 = a)) (e9 : Hid (M.gmul a 0 = 0))
    (x1 : bits .xor .u8 (b : Int) (c : Int) = (d : Int)) (x2 : bits .xor .u8 (q : Int) (u : Int) = (t : Int)) (ei : Hid (a ≠ 0 → M.gmul a (M.ginv a) = 1)) (ez : Hid (a ≠ 0 → b ≠ 0 → q ≠ 0)) :
    Calls Try.prog 4 #[.int .u8 a, .int .u8 b, .int .u8 c] w fun e w' => e = .returned (.bool true) ∧ Below w.heap.size w w' := by
  go_enter Try.func4, Try.ntmps4
  go_wp2_with fail
  refine (known_any _).mono ?_
  rintro e w1 ⟨rfl, hb1⟩
  have B1 := Lib.hid hb1
  clear hb1
  go_wp2_with fail
  refine (fresh_any _).mono ?_
  rintro e w2 ⟨rfl, hf2, hb2, hs2⟩
  have B2 := Lib.hid (B1.out.trans (hb2.mono B1.out.size))
  have F2 := Lib.hid hf2
  have hle := B1.out.size
  clear hb2 hf2 hs2 B1
  generalize w1.heap.size = g at *
  go_wp2_with fail
  refine (mul_at e1.out hb hc F2.out).mono ?_
  rintro e w3 ⟨rfl, hf3, ho3⟩
  have B3 := Lib.hid (B2.out.trans (ho3.below hle B2.out.size))
  have F3 := Lib.hid hf3
  clear hf3 ho3 B2 F2
  go_wp2_with fail
  refine (mul_at e2.out ha hp F3.out).mono ?_
  rintro e w4 ⟨rfl, hf4, ho4⟩
  have B4 := Lib.hid (B3.out.trans (ho4.below hle B3.out.size))
  have F4 := Lib.hid hf4
  clear hf4 ho4 B3 F3
  go_wp2_with fail
  refine (mul_at e3.out ha hb F4.out).mono ?_
  rintro e w5 ⟨rfl, hf5, ho5⟩
  have B5 := Lib.hid (B4.out.trans (ho5.below hle B4.out.size))
  have F5 := Lib.hid hf5
  clear hf5 ho5 B4 F4
  go_wp2_with fail
  refine (mul_at e4.out hq hc F5.out).mono ?_
  rintro e w6 ⟨rfl, hf6, ho6⟩
  have B6 := Lib.hid (B5.out.trans (ho6.below hle B5.out.size))
  have F6 := Lib.hid hf6
  clear hf6 ho6 B5 F5
  go_wp2_with fail
  refine (mul_at e3.out ha hb F6.out).mono ?_
  rintro e w7 ⟨rfl, hf7, ho7⟩
  have B7 := Lib.hid (B6.out.trans (ho7.below hle B6.out.size))
  have F7 := Lib.hid hf7
  clear hf7 ho7 B6 F6
  go_wp2_with fail
  refine (mul_at e5.out hb ha F7.out).mono ?_
  rintro e w8 ⟨rfl, hf8, ho8⟩
  have B8 := Lib.hid (B7.out.trans (ho8.below hle B7.out.size))
  have F8 := Lib.hid hf8
  clear hf8 ho8 B7 F7
  go_wp2_with fail
  refine (mul_at e6.out ha hd F8.out).mono ?_
  rintro e w9 ⟨rfl, hf9, ho9⟩
  have B9 := Lib.hid (B8.out.trans (ho9.below hle B8.out.size))
  have F9 := Lib.hid hf9
  clear hf9 ho9 B8 F8
  go_wp2_with fail
  refine (mul_at e3.out ha hb F9.out).mono ?_
  rintro e w10 ⟨rfl, hf10, ho10⟩
  have B10 := Lib.hid (B9.out.trans (ho10.below hle B9.out.size))
  have F10 := Lib.hid hf10
  clear hf10 ho10 B9 F9
  go_wp2_with fail
  refine (mul_at e7.out ha hc F10.out).mono ?_
  rintro e w11 ⟨rfl, hf11, ho11⟩
  have B11 := Lib.hid (B10.out.trans (ho11.below hle B10.out.size))
  have F11 := Lib.hid hf11
  clear hf11 ho11 B10 F10
  go_wp2_with fail
  refine (mul_at (y := 1) e8.out ha (by omega) F11.out).mono ?_
  rintro e w12 ⟨rfl, hf12, ho12⟩
  have B12 := Lib.hid (B11.out.trans (ho12.below hle B11.out.size))
  have F12 := Lib.hid hf12
  clear hf12 ho12 B11 F11
  go_wp2_with fail
  refine (mul_at (y := 0) (r := 0) e9.out ha (by omega) F12.out).mono ?_
  rintro e w13 ⟨rfl, hf13, ho13⟩
  have B13 := Lib.hid (B12.out.trans (ho13.below hle B12.out.size))
  have F13 := Lib.hid hf13
  clear hf13 ho13 B12 F12
  go_wp2_with fail
  by_cases h0 : a = 0
  · subst h0
    refine (inv_zero F13.out).mono ?_
    rintro e w14 ⟨rfl, hf14, ho14⟩
    have B14 := Lib.hid (B13.out.trans (ho14.below hle B13.out.size))
    have F14 := Lib.hid hf14
    clear hf14 ho14 B13 F13
    go_wp2_with fail
    go_ret
    exact ⟨rfl, B14.out⟩
  · have hz : ((a : Int) == 0) = false := by simpa using h0
    have hi := M.ginv_lt a
    have ee := Lib.hid (ei.out h0)
    generalize hii : M.ginv a = i at *
    have eii := Lib.hid hii
    clear hii
    refine (inv_at h0 eii.out ha F13.out).mono ?_
    rintro e w14 ⟨rfl, hf14, ho14⟩
    have B14 := Lib.hid (B13.out.trans (ho14.below hle B13.out.size))
    have F14 := Lib.hid hf14
    clear hf14 ho14 B13 F13
    go_wp2_with fail
    by_cases hb0 : b = 0
    · have hbz : ((b : Int) == 0) = true := by simpa using hb0
      clear hb0
      refine (mul_at ee.out ha hi F14.out).mono ?_
      rintro e w15 ⟨rfl, hf15, ho15⟩
      have B15 := Lib.hid (B14.out.trans (ho15.below hle B14.out.size))
      have F15 := Lib.hid hf15
      clear hf15 ho15 B14 F14
      go_wp2_with fail
      go_ret
      exact ⟨rfl, B15.out⟩
    · have hbz : ((b : Int) == 0) = false := by simpa using hb0
      have hqz : ((q : Int) != 0) = true := by simpa using ez.out h0 hb0
      clear hb0
      refine (mul_at ee.out ha hi F14.out).mono ?_
      rintro e w15 ⟨rfl, hf15, ho15⟩
      have B15 := Lib.hid (B14.out.trans (ho15.below hle B14.out.size))
      have F15 := Lib.hid hf15
      clear hf15 ho15 B14 F14
      go_wp2_with fail
      refine (mul_at e3.out ha hb F15.out).mono ?_
      rintro e w16 ⟨rfl, hf16, ho16⟩
      have B16 := Lib.hid (B15.out.trans (ho16.below hle B15.out.size))
      have F16 := Lib.hid hf16
      clear hf16 ho16 B15 F15
      go_wp2_with fail
      go_ret
      exact ⟨rfl, B16.out⟩

theorem walk (a0 : Int) (a1 : Int) (a2 : Int) (w : World) (w0 : (Lit.int .u8 a0).wf = true) (w1 : (Lit.int .u8 a1).wf = true) (w2 : (Lit.int .u8 a2).wf = true) :
    Calls Try.prog 4 #[.int .u8 a0, .int .u8 a1, .int .u8 a2] w fun e w' => e = .returned (.bool true) ∧ Below w.heap.size w w' := by
  obtain ⟨a, rfl, ha⟩ := u8_of_wf w0
  obtain ⟨b, rfl, hb⟩ := u8_of_wf w1
  obtain ⟨c, rfl, hc⟩ := u8_of_wf w2
  have hbc := M.xor_lt hb hc
  refine core a b c (M.gmul b c) (M.gmul a b) (M.gmul a (M.gmul b c)) (b ^^^ c) (M.gmul a (b ^^^ c)) (M.gmul a c) ha hb hc (M.gmul_lt _ _) (M.gmul_lt _ _) hbc w rfl rfl rfl (M.gmul_assoc a b c).symm (M.gmul_comm b a) rfl rfl (M.gmul_one ha) (M.gmul_zero_right a) (u8_xor_nat b c hb hc) ?_ (M.gmul_ginv ha) M.gmul_pos
  rw [u8_xor_nat _ _ (M.gmul_lt _ _) (M.gmul_lt _ _), M.gmul_xor ha hb hc]
end fieldLaws
end Go.Proofs.Ytmiedappfmlofaa
