/-
  The law's switch, an arm of it. The conditions: what stands ahead of it.
-/
import Derived.Test.YtefgofoocabkkaaDeadExK0M
import Derived.Test.YtefgofoocabkkaaDeadKnown
import Derived.Test.YtefgofoocabkkaaDeadCopyM
import Derived.Test.YtefgofoocabkkaaDeadBack
namespace Go.Proofs.Ytefgofoocabkkaa
open Go Go.RowKit
set_option maxRecDepth 100000
set_option linter.unusedVariables false
namespace Dd
open Nr (OwnN csN)
set_option maxHeartbeats 25600000 in
theorem sw1 (w wr : World) (b t T m g g1 o1 i len2 cap2 : Nat) (nn : Int) (v9 v10 v11 v12 v13 : Value) (L : Ln) (A : Option Addr) (c : Nat) (A' : Option Addr) (c' : Nat) (H : List Nat) (S : List (List Nat)) (B X : List Nat)
    {x1 x3 x4 x5 x6 x14 x18 x19 x20 x21 x22 x23 x24 x25 x26 x27 x28 x29 x30 x31 x32 x33 x34 x35 x36 x37 x38 x39 x40 x41 x42 x43 x44 x45 x46 x47 x48 x49 x50 x51 x52 x53 x54 x55 x56 x57 x58 x59 x60 x61 x62 x63 x64 x65 x66 x67 x68 x69 x70 x71 x72 x73 x74 x75 x76 x77 x78 x79 x80 x81 x82 x84 x85 x86 x87 x88 x89 x90 x91 x92 x93 x94 x95 x96 x97 x98 x99 x100 x101 x102 x103 x104 x105 x106 x107 x108 x109 x110 x111 x112 x113 x114 x115 x116 x117 x118 x119 x120 x121 x122 x123 x124 x125 x126 x127 x128 x129 x130 x131 x132 x133 x134 x135 x136 x137 x138 x139 x140 x141 x142 x143 x144 x145 x146 x147 x148 x149 x150 x151 x152 x153 x154 x155 x156 x157 x158 x159 x160 x161 x162 x163 x164 x165 x166 x167 x168 x169 x170 x171 x172 x173 x174 x175 x176 x177 x178 x179 x180 x181 x182 x183 x184 x185 x186 x187 x188 x189 x190 x191 x192 x193 x194 x195 x196 x197 x198 x199 x200 x201 x202 x203 x204 x205 x206 x207 x208 x209 x210 x211 x212 x213 x214 x215 x216 x217 x218 x219 x220 x221 x222 x223 x224 x225 x226 x227 x228 x229 x230 x231 x232 x233 x234 x235 x236 x237 x238 x239 x240 x241 x242 x243 x244 x245 x246 x247 x248 x249 x250 x251 x252 x253 x254 x255 x256 x257 x258 x259 x260 x261 x262 x263 x264 x265 x266 x267 : Value} {C : Code} (hC : Try.f3.body.bind (fb 4) = some C) {Q : Exit → Act → World → Prop} (hQ : ∀ c a d v w, Q (.panic c) (a.put d v) w → Q (.panic c) a w)
    (hi2 : i < len2) (hlc : len2 ≤ cap2) (hi80 : i < 80) (ht : t ≤ 181) (hT : T = t + 1) (HG : Hid (w.heap.size ≤ g)) (kn : wr.cell? ⟨g1, o1 + i * 2 + 1, none⟩ = some (.int .i64 nn)) (HS : Hid (LS wr g L A c A' c')) (HM : Hid (Mm wr w.heap.size v9 v11 v10 v12 v13 H (List.range m) S B (frL B.length X))) (HE : Hid (Ex L b t H S (List.range m) B X)) (LW : Hid (Below w.heap.size w wr))
    (hK : ∀ (z9 z10 z12 z13 z16 z17 z18 z19 z20 z21 z84 z85 z86 z87 z88 z89 z90 z91 z92 z93 z94 z95 z96 z97 z98 z99 z100 z101 z102 z103 z104 z105 z106 z107 z108 z109 z110 z111 z112 z113 z114 z115 z116 z117 z118 z119 z120 z121 z122 z123 z124 z125 z126 z127 z128 z129 z130 z131 z132 z133 z134 z135 z136 z137 z138 z139 z140 z141 z142 z143 z144 z145 z146 z147 z148 z149 z150 z151 z152 z153 z154 z155 z156 z157 z158 z159 z160 z161 z162 z163 z164 z165 z166 z167 z168 z169 z170 z171 z172 z173 z174 z175 z176 z177 z178 z179 z180 z181 z182 z183 z184 z185 z186 z187 z188 z189 : Value) (wx : World), SwPost w b T m g v11 z9 z10 z12 z13 z16 z17 wx → Q .normal { tmps := #[.int .i64 (b : Int), x1, .slice (some ⟨g1, o1, none⟩) len2 cap2, x3, x4, x5, x6, .int .i64 (T : Int), .pointer (some ⟨g, 0, none⟩), z9, z10, v11, z12, z13, x14, .int .i64 (i : Int), z16, z17, z18, z19, z20, z21, x22, x23, x24, x25, x26, x27, x28, x29, x30, x31, x32, x33, x34, x35, x36, x37, x38, x39, x40, x41, x42, x43, x44, x45, x46, x47, x48, x49, x50, x51, x52, x53, x54, x55, x56, x57, x58, x59, x60, x61, x62, x63, x64, x65, x66, x67, x68, x69, x70, x71, x72, x73, x74, x75, x76, x77, x78, x79, x80, x81, x82, .int .i64 1, z84, z85, z86, z87, z88, z89, z90, z91, z92, z93, z94, z95, z96, z97, z98, z99, z100, z101, z102, z103, z104, z105, z106, z107, z108, z109, z110, z111, z112, z113, z114, z115, z116, z117, z118, z119, z120, z121, z122, z123, z124, z125, z126, z127, z128, z129, z130, z131, z132, z133, z134, z135, z136, z137, z138, z139, z140, z141, z142, z143, z144, z145, z146, z147, z148, z149, z150, z151, z152, z153, z154, z155, z156, z157, z158, z159, z160, z161, z162, z163, z164, z165, z166, z167, z168, z169, z170, z171, z172, z173, z174, z175, z176, z177, z178, z179, z180, z181, z182, z183, z184, z185, z186, z187, z188, z189, x190, x191, x192, x193, x194, x195, x196, x197, x198, x199, x200, x201, x202, x203, x204, x205, x206, x207, x208, x209, x210, x211, x212, x213, x214, x215, x216, x217, x218, x219, x220, x221, x222, x223, x224, x225, x226, x227, x228, x229, x230, x231, x232, x233, x234, x235, x236, x237, x238, x239, x240, x241, x242, x243, x244, x245, x246, x247, x248, x249, x250, x251, x252, x253, x254, x255, x256, x257, x258, x259, x260, x261, x262, x263, x264, x265, x266, x267], defers := [] } wx) :
    Code.wp Try.prog C Q { tmps := #[.int .i64 (b : Int), x1, .slice (some ⟨g1, o1, none⟩) len2 cap2, x3, x4, x5, x6, .int .i64 (T : Int), .pointer (some ⟨g, 0, none⟩), v9, v10, v11, v12, v13, x14, .int .i64 (i : Int), .slice none 0 0, .int .i64 0, x18, x19, x20, x21, x22, x23, x24, x25, x26, x27, x28, x29, x30, x31, x32, x33, x34, x35, x36, x37, x38, x39, x40, x41, x42, x43, x44, x45, x46, x47, x48, x49, x50, x51, x52, x53, x54, x55, x56, x57, x58, x59, x60, x61, x62, x63, x64, x65, x66, x67, x68, x69, x70, x71, x72, x73, x74, x75, x76, x77, x78, x79, x80, x81, x82, .int .i64 1, x84, x85, x86, x87, x88, x89, x90, x91, x92, x93, x94, x95, x96, x97, x98, x99, x100, x101, x102, x103, x104, x105, x106, x107, x108, x109, x110, x111, x112, x113, x114, x115, x116, x117, x118, x119, x120, x121, x122, x123, x124, x125, x126, x127, x128, x129, x130, x131, x132, x133, x134, x135, x136, x137, x138, x139, x140, x141, x142, x143, x144, x145, x146, x147, x148, x149, x150, x151, x152, x153, x154, x155, x156, x157, x158, x159, x160, x161, x162, x163, x164, x165, x166, x167, x168, x169, x170, x171, x172, x173, x174, x175, x176, x177, x178, x179, x180, x181, x182, x183, x184, x185, x186, x187, x188, x189, x190, x191, x192, x193, x194, x195, x196, x197, x198, x199, x200, x201, x202, x203, x204, x205, x206, x207, x208, x209, x210, x211, x212, x213, x214, x215, x216, x217, x218, x219, x220, x221, x222, x223, x224, x225, x226, x227, x228, x229, x230, x231, x232, x233, x234, x235, x236, x237, x238, x239, x240, x241, x242, x243, x244, x245, x246, x247, x248, x249, x250, x251, x252, x253, x254, x255, x256, x257, x258, x259, x260, x261, x262, x263, x264, x265, x266, x267], defers := [] } wr := by
  have i1 : (i : Int) < (len2 : Int) := by omega
  have HKK := Lib.hid hK
  clear hK
  have HQ := Lib.hid hQ
  clear hQ
  have HT := Lib.hid hT
  have hT3 : T ≤ 190 := by omega
  clear hT
  have hHl : H.length ≤ 200 := by have := HE.out.cl; omega
  have hSl : S.length ≤ 200 := by have := HE.out.sl; omega
  have hBl : B.length ≤ 200 := by have := HE.out.bl; omega
  obtain ⟨A9, c9, hv9, r9, l9, m9, n9, _⟩ := HM.out.oH.shape (fun _ => rfl)
  subst hv9
  have HR9 := Lib.hid (⟨r9, n9⟩ : _ ∧ _)
  obtain ⟨vs, oS1, oS2, oS3⟩ := HM.out.oS
  have HVS := Lib.hid (⟨oS1, oS2, oS3⟩ : _ ∧ _ ∧ _)
  obtain ⟨A10, c10, hv10, r10, l10, m10, n10, _⟩ := oS1.shape (fun _ => rfl)
  rw [oS2] at hv10 l10
  subst hv10
  have HR10 := Lib.hid (⟨r10, n10⟩ : _ ∧ _)
  obtain ⟨A12, c12, hv12, r12, l12, m12, n12, _⟩ := HM.out.oB.shape (fun _ => rfl)
  subst hv12
  have HR12 := Lib.hid (⟨r12, n12⟩ : _ ∧ _)
  obtain ⟨A13, c13, hv13, r13, l13, m13, n13, _⟩ := HM.out.oF.shape (fun _ => rfl)
  rw [frL_len] at hv13 l13
  subst hv13
  unfold maxLen at m9 m10 m12 m13
  clear r9 n9 oS1 oS2 oS3 r10 n10 r12 n12 r13 n13
  simp [Try.f3, fb] at hC
  subst hC
  go_wp2_with (at_builtin; refine wpList_app_g rfl 29 (.tmp 86) (.tmp 87) rfl rfl rfl (fun ty => copyN rfl HR9.out.1 HR9.out.2 (by omega) ty) ?_; intro v88 W1 hap; refine of_hid ?_)
  refine Lib.hid ?_
  obtain ⟨ho1, hb1⟩ := hap
  have HO1 := Lib.hid ho1
  have HB1 := Lib.hid hb1
  clear ho1 hb1
  go_wp2_with (at_builtin; refine wpList_app_g rfl 29 (.tmp 88) (.tmp 91) rfl rfl rfl (fun ty => appN HO1.out B.length (by omega) HB1.out.size ty) ?_; intro v92 W2 hap; refine of_hid ?_)
  refine Lib.hid ?_
  obtain ⟨ho2, hb2, hr2⟩ := hap
  have hB2 := HB1.out.trans hb2
  have HM2 := Lib.hid (HM.out.setH ho2 hB2)
  have HS2 := Lib.hid (HS.out.below hB2)
  have LW2 := Lib.hid (LW.out.trans (hB2.mono LW.out.size))
  clear ho2 hb2 hr2 hB2 HO1 HB1 HM HS LW
  go_wp2_with (at_builtin; refine wpList_app_g rfl 29 (.tmp 93) (.tmp 95) rfl rfl rfl (fun ty => appN HM2.out.oB T (by omega) HM2.out.sz ty) ?_; intro v12 W3 hap; refine of_hid ?_)
  refine Lib.hid ?_
  obtain ⟨ho9, hb9, hr9⟩ := hap
  have HS3 := Lib.hid (HS2.out.rowC HM2.out.oB (by unfold rowT; simp) hr9)
  have HM3 := Lib.hid (HM2.out.pushB ho9 hr9)
  have LW3 := Lib.hid (LW2.out.trans hb9)
  clear ho9 hb9 hr9 HS2 HM2 LW2
  go_wp2_with (at_builtin; refine wpList_app_g rfl 31 (.tmp 97) (.tmp 98) rfl rfl rfl (fun ty => appT HM3.out.oF false (by rw [frL_len]; omega) HM3.out.sz ty) ?_; intro v13 W4 hap; refine of_hid ?_)
  refine Lib.hid ?_
  obtain ⟨ho9, hb9, hr9⟩ := hap
  have HS4 := Lib.hid (HS3.out.rowC HM3.out.oF (by unfold rowT; simp) hr9)
  have HM4 := Lib.hid (HM3.out.pushF ho9 hr9)
  have LW4 := Lib.hid (LW3.out.trans hb9)
  clear ho9 hb9 hr9 HS3 HM3 LW3
  have HN0 : Hid ((∀ p ∈ ([] : List Pt), ∃ n : Nat, p.addr = (n : Int) ∧ n < (B ++ [T]).length ∧ n ∉ X) ∧ (nos []).Nodup) := Lib.hid ⟨(fun p hp => by cases hp), by simp [nos]⟩
  have HF0 : Hid (OwnP W4 0 (.slice none ([] : List Pt).length 0) []) := Lib.hid (Gr.OwnG.nil _ _)
  have HE2 : Hid (Ex L b T (H ++ [B.length]) S (List.range m) (B ++ [T]) (X ++ nos [])) := Lib.hid (by rw [HT.out, show nos [] = [] from rfl, List.append_nil]; exact HE.out.birth)
  have HM5 : Hid (Mm W4 w.heap.size v92 v11 (.slice A10 S.length c10) v12 v13 (H ++ [B.length]) (List.range m) S (B ++ [T]) (frL (B ++ [T]).length X)) := Lib.hid (by
    rw [List.length_append, List.length_singleton, frL_push (fun hx => by have := (HE.out.xa _ hx).1; omega)]
    exact HM4.out)
  clear HM4 HE
  go_wp2_with fail
  refine HKK.out _ _ _ _ _ _ _ _ _ _ _ _ _ _ _ _ _ _ _ _ _ _ _ _ _ _ _ _ _ _ _ _ _ _ _ _ _ _ _ _ _ _ _ _ _ _ _ _ _ _ _ _ _ _ _ _ _ _ _ _ _ _ _ _ _ _ _ _ _ _ _ _ _ _ _ _ _ _ _ _ _ _ _ _ _ _ _ _ _ _ _ _ _ _ _ _ _ _ _ _ _ _ _ _ _ _ _ _ _ _ _ _ _ _ _ _ _ ?_
  exact ⟨L, A, c, A', c', _, S, _, X, [], none, 0, rfl, rfl, HF0, HS4, HM5, HE2, HN0, LW4⟩
end Dd
end Go.Proofs.Ytefgofoocabkkaa
