/-
  Told free are just those that nobody needs. The conditions: what stands ahead of it.
-/
import Derived.Test.YtefgofoocabkkaaDeadExK0M
import Derived.Deep.DeepCutAuto
namespace Go.Proofs.Ytefgofoocabkkaa
open Go Go.RowKit
set_option maxRecDepth 100000
set_option linter.unusedVariables false
namespace Dd
open Nr (OwnN csN)
/-- is a block needed: by the head, the origin, or one of the first k snapshots? -/
def needB (n : Nat) (H O : List Nat) (S : List (List Nat)) (k : Nat) : Bool := (decide (n ∈ H ∨ n ∈ O)) || (S.take k).any fun V => decide (n ∈ V)
theorem needB_zero (n : Nat) (H O : List Nat) (S : List (List Nat)) : needB n H O S 0 = decide (n ∈ H ∨ n ∈ O) := by simp [needB]
theorem needB_succ (n : Nat) (H O : List Nat) (S : List (List Nat)) {k : Nat} {V : List Nat} (h : S[k]? = some V) : needB n H O S (k + 1) = (needB n H O S k || decide (n ∈ V)) := by
  unfold needB
  rw [List.take_add_one, h, List.any_append, Bool.or_assoc]
  simp
theorem needB_iff (n : Nat) (H O : List Nat) (S : List (List Nat)) {k : Nat} (hk : S.length ≤ k) : needB n H O S k = true ↔ (n ∈ H ∨ n ∈ O ∨ ∃ V ∈ S, n ∈ V) := by
  unfold needB
  rw [List.take_of_length_le hk, Bool.or_eq_true, decide_eq_true_iff, List.any_eq_true]
  simp [or_assoc]
set_option maxHeartbeats 25600000 in
theorem need (w wr : World) (b T m : Nat) (v9 v10 v11 v12 v13 : Value) (L : Ln) (H : List Nat) (S : List (List Nat)) (B X : List Nat)
    {x0 x1 x2 x3 x4 x5 x6 x7 x8 x12 x14 x15 x16 x17 x18 x19 x20 x21 x22 x23 x25 x26 x27 x28 x29 x30 x31 x32 x33 x34 x35 x36 x37 x38 x39 x40 x41 x42 x43 x44 x45 x46 x47 x48 x49 x50 x51 x52 x53 x54 x55 x56 x57 x58 x59 x60 x61 x62 x63 x64 x65 x66 x67 x68 x69 x70 x71 x72 x73 x74 x75 x76 x77 x78 x79 x80 x81 x82 x83 x84 x85 x86 x87 x88 x89 x90 x91 x92 x93 x94 x95 x96 x97 x98 x99 x100 x101 x102 x103 x104 x105 x106 x107 x108 x109 x110 x111 x112 x113 x114 x115 x116 x117 x118 x119 x120 x121 x122 x123 x124 x125 x126 x127 x128 x129 x130 x131 x132 x133 x134 x135 x136 x137 x138 x139 x140 x141 x142 x143 x144 x145 x146 x147 x148 x149 x150 x151 x152 x153 x154 x155 x156 x157 x158 x159 x160 x161 x162 x163 x164 x165 x166 x167 x168 x169 x170 x171 x172 x173 x174 x175 x176 x177 x178 x179 x180 x181 x182 x183 x184 x185 x186 x187 x188 x189 x190 x191 x192 x193 x194 x195 x196 x197 x198 x199 x200 x201 x202 x203 x204 x205 x206 x207 x208 x209 x210 x211 x212 x213 x214 x215 x216 x217 x218 x219 x220 x221 x222 x223 x224 x225 x226 x227 x228 x229 x230 x231 x232 x233 x234 x235 x236 x237 x238 x239 x240 x241 x242 x243 x244 x245 x246 x247 x248 x249 x250 x251 x252 x253 x254 x255 x256 x257 x258 x259 x260 x261 x262 x263 x264 x265 x266 x267 : Value} {C : Code} (hC : Try.f3.body.bind (fb 7) = some C) {Q : Exit → Act → World → Prop}
    (hT : T ≤ 190) (HM : Hid (Mm wr w.heap.size v9 v11 v10 v12 v13 H (List.range m) S B (frL B.length (X)))) (HE : Hid (Ex L b T H S (List.range m) B X))
    (hK : ∀ (z6 z24 z25 z26 z233 z234 z235 z236 z237 z238 z239 z240 z241 z242 z243 z244 z245 z246 z247 z248 z249 z250 z251 z252 z253 z254 z255 z256 z257 z258 z259 z260 z261 z262 z263 z264 z265 z266 z267 : Value) (wx : World), Hid (wx = wr) → Q .normal { tmps := #[x0, x1, x2, x3, x4, x5, z6, x7, x8, v9, v10, v11, x12, v13, x14, x15, x16, x17, x18, x19, x20, x21, x22, x23, z24, z25, z26, x27, x28, x29, x30, x31, x32, x33, x34, x35, x36, x37, x38, x39, x40, x41, x42, x43, x44, x45, x46, x47, x48, x49, x50, x51, x52, x53, x54, x55, x56, x57, x58, x59, x60, x61, x62, x63, x64, x65, x66, x67, x68, x69, x70, x71, x72, x73, x74, x75, x76, x77, x78, x79, x80, x81, x82, x83, x84, x85, x86, x87, x88, x89, x90, x91, x92, x93, x94, x95, x96, x97, x98, x99, x100, x101, x102, x103, x104, x105, x106, x107, x108, x109, x110, x111, x112, x113, x114, x115, x116, x117, x118, x119, x120, x121, x122, x123, x124, x125, x126, x127, x128, x129, x130, x131, x132, x133, x134, x135, x136, x137, x138, x139, x140, x141, x142, x143, x144, x145, x146, x147, x148, x149, x150, x151, x152, x153, x154, x155, x156, x157, x158, x159, x160, x161, x162, x163, x164, x165, x166, x167, x168, x169, x170, x171, x172, x173, x174, x175, x176, x177, x178, x179, x180, x181, x182, x183, x184, x185, x186, x187, x188, x189, x190, x191, x192, x193, x194, x195, x196, x197, x198, x199, x200, x201, x202, x203, x204, x205, x206, x207, x208, x209, x210, x211, x212, x213, x214, x215, x216, x217, x218, x219, x220, x221, x222, x223, x224, x225, x226, x227, x228, x229, x230, x231, x232, z233, z234, z235, z236, z237, z238, z239, z240, z241, z242, z243, z244, z245, z246, z247, z248, z249, z250, z251, z252, z253, z254, z255, z256, z257, z258, z259, z260, z261, z262, z263, z264, z265, z266, z267], defers := [] } wx) :
    Code.wp Try.prog C Q { tmps := #[x0, x1, x2, x3, x4, x5, x6, x7, x8, v9, v10, v11, x12, v13, x14, x15, x16, x17, x18, x19, x20, x21, x22, x23, .int .i64 0, x25, x26, x27, x28, x29, x30, x31, x32, x33, x34, x35, x36, x37, x38, x39, x40, x41, x42, x43, x44, x45, x46, x47, x48, x49, x50, x51, x52, x53, x54, x55, x56, x57, x58, x59, x60, x61, x62, x63, x64, x65, x66, x67, x68, x69, x70, x71, x72, x73, x74, x75, x76, x77, x78, x79, x80, x81, x82, x83, x84, x85, x86, x87, x88, x89, x90, x91, x92, x93, x94, x95, x96, x97, x98, x99, x100, x101, x102, x103, x104, x105, x106, x107, x108, x109, x110, x111, x112, x113, x114, x115, x116, x117, x118, x119, x120, x121, x122, x123, x124, x125, x126, x127, x128, x129, x130, x131, x132, x133, x134, x135, x136, x137, x138, x139, x140, x141, x142, x143, x144, x145, x146, x147, x148, x149, x150, x151, x152, x153, x154, x155, x156, x157, x158, x159, x160, x161, x162, x163, x164, x165, x166, x167, x168, x169, x170, x171, x172, x173, x174, x175, x176, x177, x178, x179, x180, x181, x182, x183, x184, x185, x186, x187, x188, x189, x190, x191, x192, x193, x194, x195, x196, x197, x198, x199, x200, x201, x202, x203, x204, x205, x206, x207, x208, x209, x210, x211, x212, x213, x214, x215, x216, x217, x218, x219, x220, x221, x222, x223, x224, x225, x226, x227, x228, x229, x230, x231, x232, x233, x234, x235, x236, x237, x238, x239, x240, x241, x242, x243, x244, x245, x246, x247, x248, x249, x250, x251, x252, x253, x254, x255, x256, x257, x258, x259, x260, x261, x262, x263, x264, x265, x266, x267], defers := [] } wr := by
  have HKK := Lib.hid hK
  clear hK
  obtain ⟨A13, c13, hv13, _, _, m13, _, _⟩ := HM.out.oF.shape (fun _ => rfl)
  rw [frL_len] at hv13
  subst hv13
  obtain ⟨A9, c9, hv9, r9, _, m9, _, _⟩ := HM.out.oH.shape (fun _ => rfl)
  subst hv9
  obtain ⟨A11, c11, hv11, r11, _, m11, _, _⟩ := HM.out.oO.shape (fun _ => rfl)
  subst hv11
  obtain ⟨vs, oS1, oS2, oS3⟩ := HM.out.oS
  obtain ⟨A10, c10, hv10, r10, l10, m10, n10, _⟩ := oS1.shape (fun _ => rfl)
  rw [oS2] at hv10
  subst hv10
  have HVS := Lib.hid (⟨oS2, oS3, r10⟩ : _ ∧ _ ∧ _)
  have hHl : H.length ≤ 200 := by have := HE.out.cl; omega
  have hSl : S.length ≤ 200 := by have := HE.out.sl; omega
  have hBl : B.length ≤ 200 := by have := HE.out.bl; omega
  have hOl : (List.range m).length ≤ 200 := by have := HE.out.ol; omega
  have HH9 : Hid (∀ x : Nat, Calls Try.prog 10 #[.slice A9 H.length c9, .int .i64 (x : Int)] wr fun e w' => e = .returned (.bool (decide (x ∈ H))) ∧ w' = wr) := Lib.hid fun x => has_at wr H A9 H.length c9 x rfl r9 (by omega)
  have HH11 : Hid (∀ x : Nat, Calls Try.prog 10 #[.slice A11 (List.range m).length c11, .int .i64 (x : Int)] wr fun e w' => e = .returned (.bool (decide (x ∈ List.range m))) ∧ w' = wr) := Lib.hid fun x => has_at wr (List.range m) A11 (List.range m).length c11 x rfl r11 (by omega)
  obtain ⟨O, hO⟩ : ∃ O, O = List.range m := ⟨_, rfl⟩
  rw [← hO] at HH11 HM HE hOl ⊢
  have HOO := Lib.hid hO
  clear hO r9 r11 oS1 oS2 oS3 r10 n10 l10
  simp [Try.f3, fb] at hC
  subst hC
  obtain ⟨wo, hwo⟩ : ∃ wo : World, wo = wr := ⟨_, rfl⟩
  have HWO := Lib.hid hwo
  rw [← hwo] at HH9 HH11 HM HVS ⊢
  clear hwo
  go_wp2_with fail
  go_loopw [24] (fun y wq => ∃ n : Nat, n ≤ B.length ∧ y = .int .i64 (n : Int) ∧ Hid (wq = wo)) (fun y _ => B.length - (intOf y).toNat)
  case atStart => exact ⟨0, by omega, rfl, Lib.hid rfl⟩
  case round =>
    obtain ⟨n, hn, rfl, hwr⟩ := hrel
    have hwr2 := hwr.out.symm
    clear hwr
    subst hwr2
    by_cases hlt : n < B.length
    · have i1 : (n : Int) < (B.length : Int) := by omega
      go_upto_region 58 with (fail)
      go_cut [25] from 233 to 267 (fun s wx => ∃ nb : Bool, s = .bool nb ∧ Hid (nb = decide (n ∈ H ∨ n ∈ O)) ∧ Hid (wx = wo))
      case first =>
        by_cases h1 : n ∈ H
        · have HC1 : Hid (Calls Try.prog 10 #[.slice A9 H.length c9, .int .i64 (n : Int)] wo fun e w' => e = .returned (.bool true) ∧ w' = wo) := Lib.hid (by have h := HH9.out n; rw [decide_eq_true h1] at h; exact h)
          have hnb : Hid (true = decide (n ∈ H ∨ n ∈ O)) := Lib.hid (decide_eq_true (.inl h1)).symm
          clear h1
          go_wp2_with fail
          refine HC1.out.mono ?_
          rintro e w' ⟨rfl, hw'⟩
          have hw' := hw'.symm
          subst hw'
          go_wp2_with fail
          go_meet
          exact ⟨true, rfl, hnb, Lib.hid rfl⟩
        · have HC1 : Hid (Calls Try.prog 10 #[.slice A9 H.length c9, .int .i64 (n : Int)] wo fun e w' => e = .returned (.bool false) ∧ w' = wo) := Lib.hid (by have h := HH9.out n; rw [decide_eq_false h1] at h; exact h)
          obtain ⟨nb, hnb⟩ : ∃ nb : Bool, nb = decide (n ∈ O) := ⟨_, rfl⟩
          have HC2 : Hid (Calls Try.prog 10 #[.slice A11 O.length c11, .int .i64 (n : Int)] wo fun e w' => e = .returned (.bool nb) ∧ w' = wo) := Lib.hid (by have h := HH11.out n; rw [← hnb] at h; exact h)
          have HNB : Hid (nb = decide (n ∈ H ∨ n ∈ O)) := Lib.hid (by rw [hnb]; simp [h1])
          clear h1 hnb
          go_wp2_with fail
          refine HC1.out.mono ?_
          rintro e w' ⟨rfl, hw'⟩
          have hw' := hw'.symm
          subst hw'
          go_wp2_with fail
          refine HC2.out.mono ?_
          rintro e w' ⟨rfl, hw'⟩
          have hw' := hw'.symm
          subst hw'
          go_wp2_with fail
          go_meet
          exact ⟨nb, rfl, HNB, Lib.hid rfl⟩
      case rest =>
        obtain ⟨nb, hs25, HNB, hwc⟩ := hcut
        subst hs25
        have hwc2 := hwc.out.symm
        clear hwc
        subst hwc2
        have HNB0 : Hid (nb = needB n H O S 0) := Lib.hid (by rw [HNB.out]; exact (needB_zero n H O S).symm)
        clear HNB
        go_wp2_with fail
        go_loopw [25, 26] (fun vb y wq => ∃ (k : Nat) (nb : Bool), k ≤ S.length ∧ y = .int .i64 (k : Int) ∧ vb = .bool nb ∧ Hid (nb = needB n H O S k) ∧ Hid (wq = wo)) (fun _ y _ => S.length - (intOf y).toNat)
        case atStart => exact ⟨0, nb, by omega, rfl, rfl, HNB0, Lib.hid rfl⟩
        case round =>
          clear HNB0
          obtain ⟨k, nb, hk, rfl, rfl, HNB, hwr⟩ := hrel
          have hwr2 := hwr.out.symm
          clear hwr
          subst hwr2
          by_cases hkl : k < S.length
          · have i2 : (k : Int) < (S.length : Int) := by omega
            obtain ⟨V, hV⟩ : ∃ V, S[k]? = some V := ⟨_, List.getElem?_eq_getElem hkl⟩
            have htk := needB_succ n H O S hV
            cases nb with
            | true =>
              have HNB2 : Hid (true = needB n H O S (k + 1)) := Lib.hid (by rw [htk, ← HNB.out]; rfl)
              clear HNB hV htk
              go_wp2_with fail
              go_roundw
              case rel => exact ⟨k + 1, true, by omega, by go_num, rfl, HNB2, Lib.hid trivial⟩
              case measure => simp [intOf]; omega
            | false =>
              obtain ⟨x, hx⟩ : ∃ x, vs[k]? = some x := ⟨_, List.getElem?_eq_getElem (by rw [HVS.out.1]; exact hkl)⟩
              obtain ⟨hoV, _⟩ := HVS.out.2.1 k x V hx hV
              obtain ⟨xA, xn, xc⟩ := x
              obtain ⟨AV, cV, hvV, rV, _, _, _, _⟩ := hoV.shape (fun _ => rfl)
              injection hvV with e1 e2 e3
              subst e1 e2 e3
              have hVl : V.length ≤ 200 := by have := HE.out.vl V (List.mem_of_getElem? hV); omega
              obtain ⟨b', o', e1, _, hc⟩ := HVS.out.2.2 k _ hx
              have kS := hc 0 _ rfl
              rw [Nat.mul_one, Nat.add_zero] at kS
              subst e1
              obtain ⟨nb, hnb⟩ : ∃ nb : Bool, nb = decide (n ∈ V) := ⟨_, rfl⟩
              have HC2 : Hid (Calls Try.prog 10 #[.slice xA V.length xc, .int .i64 (n : Int)] wo fun e w' => e = .returned (.bool nb) ∧ w' = wo) := Lib.hid (by rw [hnb]; exact has_at wo V xA V.length xc n rfl rV (by omega))
              have HNB2 : Hid (nb = needB n H O S (k + 1)) := Lib.hid (by rw [htk, ← HNB.out, hnb]; rfl)
              clear HNB hV htk hx hoV rV hc hnb
              go_wp2_with fail
              refine HC2.out.mono ?_
              rintro e w' ⟨rfl, hw'⟩
              have hw' := hw'.symm
              subst hw'
              go_wp2_with fail
              go_roundw
              case rel => exact ⟨k + 1, nb, by omega, by go_num, rfl, HNB2, Lib.hid trivial⟩
              case measure => simp [intOf]; omega
          · have i2 : ¬ ((k : Int) < (S.length : Int)) := by omega
            obtain ⟨gf, cf, cuf, hvf, hbf, hgf, _, _, hbk, hcz, hrf⟩ := own_in (fun _ => rfl) HM.out.oF (show n < (frL B.length X).length by rw [frL_len]; exact hlt)
            injection hvf with e1 e2 e3
            clear e2
            subst e1
            subst e3
            have hX : decide (n ∈ X) = !nb := by
              have h1 := HE.out.needed hlt
              rw [HNB.out]
              cases hq : needB n H O S k with
              | true => exact decide_eq_false fun hx => h1.1 hx ((needB_iff n H O S (by omega)).1 hq)
              | false => exact decide_eq_true (h1.2 fun h => by rw [(needB_iff n H O S (by omega)).2 h] at hq; cases hq)
            have kf : wo.cell? ⟨gf, n, none⟩ = some (.bool (!nb)) := by
              obtain ⟨b', o', e1, _, hc⟩ := hrf n _ (frL_at hlt)
              injection e1 with e1
              injection e1 with e1 e2
              subst e1 e2
              have := hc 0 _ rfl
              rw [Nat.mul_one, Nat.zero_add, Nat.add_zero, hX] at this
              exact this
            clear hbf hgf hbk hcz hrf hX HNB
            cases nb with
            | true =>
              have kf2 : wo.cell? ⟨gf, n, none⟩ = some (.bool false) := kf
              clear kf
              go_wp2_with fail
              go_roundw
              case rel => exact ⟨n + 1, by omega, by go_num, Lib.hid trivial⟩
              case measure => simp [intOf]; omega
            | false =>
              have kf2 : wo.cell? ⟨gf, n, none⟩ = some (.bool true) := kf
              clear kf
              go_wp2_with fail
              go_roundw
              case rel => exact ⟨n + 1, by omega, by go_num, Lib.hid trivial⟩
              case measure => simp [intOf]; omega
    · have i1 : ¬ ((n : Int) < (B.length : Int)) := by omega
      go_wp2_with fail
      have h9 := HOO.out
      subst h9
      exact HKK.out _ _ _ _ _ _ _ _ _ _ _ _ _ _ _ _ _ _ _ _ _ _ _ _ _ _ _ _ _ _ _ _ _ _ _ _ _ _ _ _ HWO
end Dd
end Go.Proofs.Ytefgofoocabkkaa
