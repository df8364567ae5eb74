/-
  Blocks of the origin. The conditions: what stands ahead of it.
-/
import Derived.Test.YtefgofoocabkkaaDeadExK0M
namespace Go.Proofs.Ytefgofoocabkkaa
open Go Go.RowKit
set_option maxRecDepth 100000
set_option linter.unusedVariables false
namespace Dd
open Nr (OwnN csN)
set_option maxHeartbeats 25600000 in
theorem first (w wr : World) (b o5 g : Nat) (a1 : Int)
    {x2 x3 x4 x5 x6 x7 x8 x10 x15 x16 x17 x18 x19 x20 x21 x22 x23 x24 x25 x26 x27 x28 x29 x30 x31 x32 x33 x34 x35 x36 x37 x38 x39 x40 x41 x42 x43 x44 x45 x46 x47 x48 x49 x50 x51 x52 x53 x54 x55 x56 x57 x58 x59 x60 x61 x62 x63 x64 x65 x66 x67 x68 x69 x70 x71 x72 x73 x74 x75 x76 x77 x78 x79 x80 x81 x82 x83 x84 x85 x86 x87 x88 x89 x90 x91 x92 x93 x94 x95 x96 x97 x98 x99 x100 x101 x102 x103 x104 x105 x106 x107 x108 x109 x110 x111 x112 x113 x114 x115 x116 x117 x118 x119 x120 x121 x122 x123 x124 x125 x126 x127 x128 x129 x130 x131 x132 x133 x134 x135 x136 x137 x138 x139 x140 x141 x142 x143 x144 x145 x146 x147 x148 x149 x150 x151 x152 x153 x154 x155 x156 x157 x158 x159 x160 x161 x162 x163 x164 x165 x166 x167 x168 x169 x170 x171 x172 x173 x174 x175 x176 x177 x178 x179 x180 x181 x182 x183 x184 x185 x186 x187 x188 x189 x190 x191 x192 x193 x194 x195 x196 x197 x198 x199 x200 x201 x202 x203 x204 x205 x206 x207 x208 x209 x210 x211 x212 x213 x214 x215 x216 x217 x218 x219 x220 x221 x222 x223 x224 x225 x226 x227 x228 x229 x230 x231 x232 x233 x234 x235 x236 x237 x238 x239 x240 x241 x242 x243 x244 x245 x246 x247 x248 x249 x250 x251 x252 x253 x254 x255 x256 x257 x258 x259 x260 x261 x262 x263 x264 x265 x266 x267 : Value} {C : Code} (hC : Try.f3.body.bind (fb 0) = some C) {Q : Exit → Act → World → Prop}
    (hb100 : b < 100) (ho55 : o5 < 5) (HO5 : Hid (wrap64 ((IntKind.u64.wrap a1).tmod 5) = (o5 : Int))) (HS0 : Hid (LS wr g ⟨(b : Int), [], []⟩ none 0 none 0)) (HM0 : Hid (M1 wr w.heap.size (.slice none 0 0) (.slice none 0 0) (.slice none 0 0) (.slice none 0 0) (List.range 0) (List.range 0) (brs b 0) (frL 0 []))) (L0 : Hid (Below w.heap.size w wr))
    (hK : ∀ (z9 z11 z12 z13 z14 z37 z38 z39 z40 z41 z42 z43 z44 z45 z46 z47 z48 z49 z50 z51 z52 z53 z54 z55 z56 z57 z58 z59 z60 z61 z62 z63 z64 z65 z66 : Value) (wx : World), (∃ m : Nat, m ≤ 4 ∧ Hid (LS wx g ⟨(b : Int), [], []⟩ none 0 none 0) ∧ Hid (Mm wx w.heap.size z9 z11 (.slice none 0 0) z12 z13 (List.range m) (List.range m) [] (brs b m) (frL m [])) ∧ Hid (Ex ⟨(b : Int), [], []⟩ b (b + 1) (List.range m) [] (List.range m) (brs b m) []) ∧ Hid (Below w.heap.size w wx)) → Q .normal { tmps := #[.int .i64 (b : Int), .int .i64 a1, x2, x3, x4, x5, x6, x7, x8, z9, x10, z11, z12, z13, z14, x15, x16, x17, x18, x19, x20, x21, x22, x23, x24, x25, x26, x27, x28, x29, x30, x31, x32, x33, x34, x35, x36, z37, z38, z39, z40, z41, z42, z43, z44, z45, z46, z47, z48, z49, z50, z51, z52, z53, z54, z55, z56, z57, z58, z59, z60, z61, z62, z63, z64, z65, z66, x67, x68, x69, x70, x71, x72, x73, x74, x75, x76, x77, x78, x79, x80, x81, x82, x83, x84, x85, x86, x87, x88, x89, x90, x91, x92, x93, x94, x95, x96, x97, x98, x99, x100, x101, x102, x103, x104, x105, x106, x107, x108, x109, x110, x111, x112, x113, x114, x115, x116, x117, x118, x119, x120, x121, x122, x123, x124, x125, x126, x127, x128, x129, x130, x131, x132, x133, x134, x135, x136, x137, x138, x139, x140, x141, x142, x143, x144, x145, x146, x147, x148, x149, x150, x151, x152, x153, x154, x155, x156, x157, x158, x159, x160, x161, x162, x163, x164, x165, x166, x167, x168, x169, x170, x171, x172, x173, x174, x175, x176, x177, x178, x179, x180, x181, x182, x183, x184, x185, x186, x187, x188, x189, x190, x191, x192, x193, x194, x195, x196, x197, x198, x199, x200, x201, x202, x203, x204, x205, x206, x207, x208, x209, x210, x211, x212, x213, x214, x215, x216, x217, x218, x219, x220, x221, x222, x223, x224, x225, x226, x227, x228, x229, x230, x231, x232, x233, x234, x235, x236, x237, x238, x239, x240, x241, x242, x243, x244, x245, x246, x247, x248, x249, x250, x251, x252, x253, x254, x255, x256, x257, x258, x259, x260, x261, x262, x263, x264, x265, x266, x267], defers := [] } wx) :
    Code.wp Try.prog C Q { tmps := #[.int .i64 (b : Int), .int .i64 a1, x2, x3, x4, x5, x6, x7, x8, .slice none 0 0, x10, .slice none 0 0, .slice none 0 0, .slice none 0 0, .int .i64 0, x15, x16, x17, x18, x19, x20, x21, x22, x23, x24, x25, x26, x27, x28, x29, x30, x31, x32, x33, x34, x35, x36, x37, x38, x39, x40, x41, x42, x43, x44, x45, x46, x47, x48, x49, x50, x51, x52, x53, x54, x55, x56, x57, x58, x59, x60, x61, x62, x63, x64, x65, x66, x67, x68, x69, x70, x71, x72, x73, x74, x75, x76, x77, x78, x79, x80, x81, x82, x83, x84, x85, x86, x87, x88, x89, x90, x91, x92, x93, x94, x95, x96, x97, x98, x99, x100, x101, x102, x103, x104, x105, x106, x107, x108, x109, x110, x111, x112, x113, x114, x115, x116, x117, x118, x119, x120, x121, x122, x123, x124, x125, x126, x127, x128, x129, x130, x131, x132, x133, x134, x135, x136, x137, x138, x139, x140, x141, x142, x143, x144, x145, x146, x147, x148, x149, x150, x151, x152, x153, x154, x155, x156, x157, x158, x159, x160, x161, x162, x163, x164, x165, x166, x167, x168, x169, x170, x171, x172, x173, x174, x175, x176, x177, x178, x179, x180, x181, x182, x183, x184, x185, x186, x187, x188, x189, x190, x191, x192, x193, x194, x195, x196, x197, x198, x199, x200, x201, x202, x203, x204, x205, x206, x207, x208, x209, x210, x211, x212, x213, x214, x215, x216, x217, x218, x219, x220, x221, x222, x223, x224, x225, x226, x227, x228, x229, x230, x231, x232, x233, x234, x235, x236, x237, x238, x239, x240, x241, x242, x243, x244, x245, x246, x247, x248, x249, x250, x251, x252, x253, x254, x255, x256, x257, x258, x259, x260, x261, x262, x263, x264, x265, x266, x267], defers := [] } wr := by
  have HKK := Lib.hid hK
  clear hK
  simp [Try.f3, fb] at hC
  subst hC
  go_wp2_with fail
  have hq5 := HO5.out
  go_loopw [9, 11, 12, 13, 14] (fun v9 v11 v12 v13 y wr => ∃ m : Nat, m ≤ o5 ∧ (b = 0 → m = 0) ∧ y = .int .i64 (m : Int) ∧ Hid (LS wr g ⟨(b : Int), [], []⟩ none 0 none 0) ∧ Hid (M1 wr w.heap.size v9 v11 v12 v13 (List.range m) (List.range m) (brs b m) (frL m [])) ∧ Hid (Below w.heap.size w wr)) (fun _ _ _ _ y _ => 5 - (intOf y).toNat)
  case atStart => exact ⟨0, by omega, fun _ => rfl, rfl, HS0, HM0, L0⟩
  case round =>
    clear HS0 HM0 L0
    obtain ⟨m, hm, hbm, rfl, HS, HM, LW⟩ := hrel
    by_cases hlt : m < o5 ∧ 0 < b
    · obtain ⟨hlt1, hlt2⟩ := hlt
      have i1 : (m : Int) < (o5 : Int) := by omega
      have i2 : (0 : Int) < (b : Int) := by omega
      have i3 : ¬ (b : Int) = 0 := by omega
      have hqx : wrap64 (1 + (m : Int) % (b : Int)) = ((1 + m % b : Nat) : Int) := by
        have h1 := Nat.mod_lt m hlt2
        rw [show (m : Int) % (b : Int) = ((m % b : Nat) : Int) by rw [Int.natCast_emod]]
        unfold wrap64
        omega
      have hxb : 1 + m % b ≤ 200 := by have h1 := Nat.mod_lt m hlt2; omega
      obtain ⟨x, hx⟩ : ∃ x, x = 1 + m % b := ⟨_, rfl⟩
      rw [← hx] at hqx hxb
      have HX := Lib.hid hx
      clear hx
      have hm4 : m ≤ 4 := by omega
      go_wp2_with (at_builtin; refine wpList_app_g rfl 29 (.tmp 49) (.tmp 54) rfl rfl rfl (fun ty => appN HM.out.m.oB x (by rw [brs_len]; omega) HM.out.m.sz ty) ?_; intro v12 W1 hap; refine of_hid ?_)
      refine Lib.hid ?_
      obtain ⟨ho9, hb9, hr9⟩ := hap
      have HS1 := Lib.hid (HS.out.rowC HM.out.m.oB (by unfold rowT; simp) hr9)
      have HM1 := Lib.hid (HM.out.pushB ho9 hr9)
      have LW1 := Lib.hid (LW.out.trans hb9)
      clear ho9 hb9 hr9 HS HM LW
      go_wp2_with (at_builtin; refine wpList_app_g rfl 31 (.tmp 56) (.tmp 57) rfl rfl rfl (fun ty => appT HM1.out.m.oF false (by rw [frL_len]; omega) HM1.out.m.sz ty) ?_; intro v13 W2 hap; refine of_hid ?_)
      refine Lib.hid ?_
      obtain ⟨ho9, hb9, hr9⟩ := hap
      have HS2 := Lib.hid (HS1.out.rowC HM1.out.m.oF (by unfold rowT; simp) hr9)
      have HM2 := Lib.hid (HM1.out.pushF ho9 hr9)
      have LW2 := Lib.hid (LW1.out.trans hb9)
      clear ho9 hb9 hr9 HS1 HM1 LW1
      go_wp2_with (at_builtin; refine wpList_app_g rfl 29 (.tmp 59) (.tmp 61) rfl rfl rfl (fun ty => appN HM2.out.m.oH m (by rw [List.length_range]; omega) HM2.out.m.sz ty) ?_; intro v9 W3 hap; refine of_hid ?_)
      refine Lib.hid ?_
      obtain ⟨ho9, hb9, hr9⟩ := hap
      have HS3 := Lib.hid (HS2.out.rowC HM2.out.m.oH (by unfold rowT; simp) hr9)
      have HM3 := Lib.hid (HM2.out.pushH ho9 hr9)
      have LW3 := Lib.hid (LW2.out.trans hb9)
      clear ho9 hb9 hr9 HS2 HM2 LW2
      go_wp2_with (at_builtin; refine wpList_app_g rfl 29 (.tmp 63) (.tmp 65) rfl rfl rfl (fun ty => appN HM3.out.m.oO m (by rw [List.length_range]; omega) HM3.out.m.sz ty) ?_; intro v11 W4 hap; refine of_hid ?_)
      refine Lib.hid ?_
      obtain ⟨ho9, hb9, hr9⟩ := hap
      have HS4 := Lib.hid (HS3.out.rowC HM3.out.m.oO (by unfold rowT; simp) hr9)
      have HM4 := Lib.hid (HM3.out.pushO ho9 hr9)
      have LW4 := Lib.hid (LW3.out.trans hb9)
      clear ho9 hb9 hr9 HS3 HM3 LW3
      have HM5 : Hid (M1 W4 w.heap.size v9 v11 v12 v13 (List.range (m + 1)) (List.range (m + 1)) (brs b (m + 1)) (frL (m + 1) [])) := Lib.hid (by
        have h1 := HM4.out
        rw [brs_push, List.range_succ, frL_push (by simp), ← HX.out]
        exact h1)
      clear HM4
      go_wp2_with fail
      go_roundw
      case rel => exact ⟨m + 1, by omega, fun e => by omega, by go_num, HS4, HM5, LW4⟩
      case measure => simp [intOf]; omega
    · have hsplit2 : (¬ (m : Int) < (o5 : Int)) ∨ ((m : Int) < (o5 : Int) ∧ ¬ (0 : Int) < (b : Int)) := by omega
      have HE0 := Lib.hid (Ex.start b m (by omega) hbm)
      have HM2 := Lib.hid HM.out.m
      clear hbm HM hlt
      have hm4 : m ≤ 4 := by omega
      rcases hsplit2 with hs | ⟨hs, hs2⟩
      all_goals
        go_wp2_with fail
        exact HKK.out _ _ _ _ _ _ _ _ _ _ _ _ _ _ _ _ _ _ _ _ _ _ _ _ _ _ _ _ _ _ _ _ _ _ _ _ ⟨m, hm4, HS, HM2, HE0, LW⟩
end Dd
end Go.Proofs.Ytefgofoocabkkaa
