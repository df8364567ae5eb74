/-
  The law's switch, an arm of it. The conditions: what stands ahead of it.
-/
import Derived.Test.YtefgofoocabkkaaDeadExK0M
import Derived.Test.YtefgofoocabkkaaDeadKnown
import Derived.Test.YtefgofoocabkkaaDeadCopyM
import Derived.Test.YtefgofoocabkkaaDeadBack
namespace Go.Proofs.Ytefgofoocabkkaa
open Go Go.RowKit
set_option maxRecDepth 100000
set_option linter.unusedVariables false
namespace Dd
open Nr (OwnN csN)
set_option maxHeartbeats 25600000 in
theorem sw4 (w wr : World) (b t T m g g1 o1 i len2 cap2 : Nat) (nn : Int) (v9 v10 v11 v12 v13 : Value) (L : Ln) (A : Option Addr) (c : Nat) (A' : Option Addr) (c' : Nat) (H : List Nat) (S : List (List Nat)) (B X : List Nat)
    {x1 x3 x4 x5 x6 x14 x18 x19 x20 x21 x22 x23 x24 x25 x26 x27 x28 x29 x30 x31 x32 x33 x34 x35 x36 x37 x38 x39 x40 x41 x42 x43 x44 x45 x46 x47 x48 x49 x50 x51 x52 x53 x54 x55 x56 x57 x58 x59 x60 x61 x62 x63 x64 x65 x66 x67 x68 x69 x70 x71 x72 x73 x74 x75 x76 x77 x78 x79 x80 x81 x82 x84 x85 x86 x87 x88 x89 x90 x91 x92 x93 x94 x95 x96 x97 x98 x99 x100 x101 x102 x103 x104 x105 x106 x107 x108 x109 x110 x111 x112 x113 x114 x115 x116 x117 x118 x119 x120 x121 x122 x123 x124 x125 x126 x127 x128 x129 x130 x131 x132 x133 x134 x135 x136 x137 x138 x139 x140 x141 x142 x143 x144 x145 x146 x147 x148 x149 x150 x151 x152 x153 x154 x155 x156 x157 x158 x159 x160 x161 x162 x163 x164 x165 x166 x167 x168 x169 x170 x171 x172 x173 x174 x175 x176 x177 x178 x179 x180 x181 x182 x183 x184 x185 x186 x187 x188 x189 x190 x191 x192 x193 x194 x195 x196 x197 x198 x199 x200 x201 x202 x203 x204 x205 x206 x207 x208 x209 x210 x211 x212 x213 x214 x215 x216 x217 x218 x219 x220 x221 x222 x223 x224 x225 x226 x227 x228 x229 x230 x231 x232 x233 x234 x235 x236 x237 x238 x239 x240 x241 x242 x243 x244 x245 x246 x247 x248 x249 x250 x251 x252 x253 x254 x255 x256 x257 x258 x259 x260 x261 x262 x263 x264 x265 x266 x267 : Value} {C : Code} (hC : Try.f3.body.bind (fb 4) = some C) {Q : Exit → Act → World → Prop} (hQ : ∀ c a d v w, Q (.panic c) (a.put d v) w → Q (.panic c) a w)
    (hi2 : i < len2) (hlc : len2 ≤ cap2) (hi80 : i < 80) (ht : t ≤ 181) (hT : T = t + 1) (HG : Hid (w.heap.size ≤ g)) (kn : wr.cell? ⟨g1, o1 + i * 2 + 1, none⟩ = some (.int .i64 nn)) (HS : Hid (LS wr g L A c A' c')) (HM : Hid (Mm wr w.heap.size v9 v11 v10 v12 v13 H (List.range m) S B (frL B.length X))) (HE : Hid (Ex L b t H S (List.range m) B X)) (LW : Hid (Below w.heap.size w wr))
    (hK : ∀ (z9 z10 z12 z13 z16 z17 z18 z19 z20 z21 z84 z85 z86 z87 z88 z89 z90 z91 z92 z93 z94 z95 z96 z97 z98 z99 z100 z101 z102 z103 z104 z105 z106 z107 z108 z109 z110 z111 z112 z113 z114 z115 z116 z117 z118 z119 z120 z121 z122 z123 z124 z125 z126 z127 z128 z129 z130 z131 z132 z133 z134 z135 z136 z137 z138 z139 z140 z141 z142 z143 z144 z145 z146 z147 z148 z149 z150 z151 z152 z153 z154 z155 z156 z157 z158 z159 z160 z161 z162 z163 z164 z165 z166 z167 z168 z169 z170 z171 z172 z173 z174 z175 z176 z177 z178 z179 z180 z181 z182 z183 z184 z185 z186 z187 z188 z189 : Value) (wx : World), SwPost w b T m g v11 z9 z10 z12 z13 z16 z17 wx → Q .normal { tmps := #[.int .i64 (b : Int), x1, .slice (some ⟨g1, o1, none⟩) len2 cap2, x3, x4, x5, x6, .int .i64 (T : Int), .pointer (some ⟨g, 0, none⟩), z9, z10, v11, z12, z13, x14, .int .i64 (i : Int), z16, z17, z18, z19, z20, z21, x22, x23, x24, x25, x26, x27, x28, x29, x30, x31, x32, x33, x34, x35, x36, x37, x38, x39, x40, x41, x42, x43, x44, x45, x46, x47, x48, x49, x50, x51, x52, x53, x54, x55, x56, x57, x58, x59, x60, x61, x62, x63, x64, x65, x66, x67, x68, x69, x70, x71, x72, x73, x74, x75, x76, x77, x78, x79, x80, x81, x82, .int .i64 4, z84, z85, z86, z87, z88, z89, z90, z91, z92, z93, z94, z95, z96, z97, z98, z99, z100, z101, z102, z103, z104, z105, z106, z107, z108, z109, z110, z111, z112, z113, z114, z115, z116, z117, z118, z119, z120, z121, z122, z123, z124, z125, z126, z127, z128, z129, z130, z131, z132, z133, z134, z135, z136, z137, z138, z139, z140, z141, z142, z143, z144, z145, z146, z147, z148, z149, z150, z151, z152, z153, z154, z155, z156, z157, z158, z159, z160, z161, z162, z163, z164, z165, z166, z167, z168, z169, z170, z171, z172, z173, z174, z175, z176, z177, z178, z179, z180, z181, z182, z183, z184, z185, z186, z187, z188, z189, x190, x191, x192, x193, x194, x195, x196, x197, x198, x199, x200, x201, x202, x203, x204, x205, x206, x207, x208, x209, x210, x211, x212, x213, x214, x215, x216, x217, x218, x219, x220, x221, x222, x223, x224, x225, x226, x227, x228, x229, x230, x231, x232, x233, x234, x235, x236, x237, x238, x239, x240, x241, x242, x243, x244, x245, x246, x247, x248, x249, x250, x251, x252, x253, x254, x255, x256, x257, x258, x259, x260, x261, x262, x263, x264, x265, x266, x267], defers := [] } wx)
    (hcont : ∀ (z9 z10 z12 z13 z16 z17 z18 z19 z20 z21 z84 z85 z86 z87 z88 z89 z90 z91 z92 z93 z94 z95 z96 z97 z98 z99 z100 z101 z102 z103 z104 z105 z106 z107 z108 z109 z110 z111 z112 z113 z114 z115 z116 z117 z118 z119 z120 z121 z122 z123 z124 z125 z126 z127 z128 z129 z130 z131 z132 z133 z134 z135 z136 z137 z138 z139 z140 z141 z142 z143 z144 z145 z146 z147 z148 z149 z150 z151 z152 z153 z154 z155 z156 z157 z158 z159 z160 z161 z162 z163 z164 z165 z166 z167 z168 z169 z170 z171 z172 z173 z174 z175 z176 z177 z178 z179 z180 z181 z182 z183 z184 z185 z186 z187 z188 z189 : Value), SwPost w b T m g v11 z9 z10 z12 z13 (.slice none 0 0) (.int .i64 0) wr → Q (.exit 3) { tmps := #[.int .i64 (b : Int), x1, .slice (some ⟨g1, o1, none⟩) len2 cap2, x3, x4, x5, x6, .int .i64 (T : Int), .pointer (some ⟨g, 0, none⟩), z9, z10, v11, z12, z13, x14, .int .i64 (i : Int), z16, z17, z18, z19, z20, z21, x22, x23, x24, x25, x26, x27, x28, x29, x30, x31, x32, x33, x34, x35, x36, x37, x38, x39, x40, x41, x42, x43, x44, x45, x46, x47, x48, x49, x50, x51, x52, x53, x54, x55, x56, x57, x58, x59, x60, x61, x62, x63, x64, x65, x66, x67, x68, x69, x70, x71, x72, x73, x74, x75, x76, x77, x78, x79, x80, x81, x82, .int .i64 4, z84, z85, z86, z87, z88, z89, z90, z91, z92, z93, z94, z95, z96, z97, z98, z99, z100, z101, z102, z103, z104, z105, z106, z107, z108, z109, z110, z111, z112, z113, z114, z115, z116, z117, z118, z119, z120, z121, z122, z123, z124, z125, z126, z127, z128, z129, z130, z131, z132, z133, z134, z135, z136, z137, z138, z139, z140, z141, z142, z143, z144, z145, z146, z147, z148, z149, z150, z151, z152, z153, z154, z155, z156, z157, z158, z159, z160, z161, z162, z163, z164, z165, z166, z167, z168, z169, z170, z171, z172, z173, z174, z175, z176, z177, z178, z179, z180, z181, z182, z183, z184, z185, z186, z187, z188, z189, x190, x191, x192, x193, x194, x195, x196, x197, x198, x199, x200, x201, x202, x203, x204, x205, x206, x207, x208, x209, x210, x211, x212, x213, x214, x215, x216, x217, x218, x219, x220, x221, x222, x223, x224, x225, x226, x227, x228, x229, x230, x231, x232, x233, x234, x235, x236, x237, x238, x239, x240, x241, x242, x243, x244, x245, x246, x247, x248, x249, x250, x251, x252, x253, x254, x255, x256, x257, x258, x259, x260, x261, x262, x263, x264, x265, x266, x267], defers := [] } wr) :
    Code.wp Try.prog C Q { tmps := #[.int .i64 (b : Int), x1, .slice (some ⟨g1, o1, none⟩) len2 cap2, x3, x4, x5, x6, .int .i64 (T : Int), .pointer (some ⟨g, 0, none⟩), v9, v10, v11, v12, v13, x14, .int .i64 (i : Int), .slice none 0 0, .int .i64 0, x18, x19, x20, x21, x22, x23, x24, x25, x26, x27, x28, x29, x30, x31, x32, x33, x34, x35, x36, x37, x38, x39, x40, x41, x42, x43, x44, x45, x46, x47, x48, x49, x50, x51, x52, x53, x54, x55, x56, x57, x58, x59, x60, x61, x62, x63, x64, x65, x66, x67, x68, x69, x70, x71, x72, x73, x74, x75, x76, x77, x78, x79, x80, x81, x82, .int .i64 4, x84, x85, x86, x87, x88, x89, x90, x91, x92, x93, x94, x95, x96, x97, x98, x99, x100, x101, x102, x103, x104, x105, x106, x107, x108, x109, x110, x111, x112, x113, x114, x115, x116, x117, x118, x119, x120, x121, x122, x123, x124, x125, x126, x127, x128, x129, x130, x131, x132, x133, x134, x135, x136, x137, x138, x139, x140, x141, x142, x143, x144, x145, x146, x147, x148, x149, x150, x151, x152, x153, x154, x155, x156, x157, x158, x159, x160, x161, x162, x163, x164, x165, x166, x167, x168, x169, x170, x171, x172, x173, x174, x175, x176, x177, x178, x179, x180, x181, x182, x183, x184, x185, x186, x187, x188, x189, x190, x191, x192, x193, x194, x195, x196, x197, x198, x199, x200, x201, x202, x203, x204, x205, x206, x207, x208, x209, x210, x211, x212, x213, x214, x215, x216, x217, x218, x219, x220, x221, x222, x223, x224, x225, x226, x227, x228, x229, x230, x231, x232, x233, x234, x235, x236, x237, x238, x239, x240, x241, x242, x243, x244, x245, x246, x247, x248, x249, x250, x251, x252, x253, x254, x255, x256, x257, x258, x259, x260, x261, x262, x263, x264, x265, x266, x267], defers := [] } wr := by
  have i1 : (i : Int) < (len2 : Int) := by omega
  have HKK := Lib.hid hK
  clear hK
  have HQ := Lib.hid hQ
  clear hQ
  have HCC := Lib.hid hcont
  clear hcont
  have HT := Lib.hid hT
  have hT3 : T ≤ 190 := by omega
  clear hT
  have hHl : H.length ≤ 200 := by have := HE.out.cl; omega
  have hSl : S.length ≤ 200 := by have := HE.out.sl; omega
  have hBl : B.length ≤ 200 := by have := HE.out.bl; omega
  obtain ⟨A9, c9, hv9, r9, l9, m9, n9, _⟩ := HM.out.oH.shape (fun _ => rfl)
  subst hv9
  have HR9 := Lib.hid (⟨r9, n9⟩ : _ ∧ _)
  obtain ⟨vs, oS1, oS2, oS3⟩ := HM.out.oS
  have HVS := Lib.hid (⟨oS1, oS2, oS3⟩ : _ ∧ _ ∧ _)
  obtain ⟨A10, c10, hv10, r10, l10, m10, n10, _⟩ := oS1.shape (fun _ => rfl)
  rw [oS2] at hv10 l10
  subst hv10
  have HR10 := Lib.hid (⟨r10, n10⟩ : _ ∧ _)
  obtain ⟨A12, c12, hv12, r12, l12, m12, n12, _⟩ := HM.out.oB.shape (fun _ => rfl)
  subst hv12
  have HR12 := Lib.hid (⟨r12, n12⟩ : _ ∧ _)
  obtain ⟨A13, c13, hv13, r13, l13, m13, n13, _⟩ := HM.out.oF.shape (fun _ => rfl)
  rw [frL_len] at hv13 l13
  subst hv13
  unfold maxLen at m9 m10 m12 m13
  clear r9 n9 oS1 oS2 oS3 r10 n10 r12 n12 r13 n13
  simp [Try.f3, fb] at hC
  subst hC
  by_cases hS0 : S.length = 0
  · obtain rfl : S = [] := List.length_eq_zero_iff.1 hS0
    have HE2 : Hid (Ex L b T H [] (List.range m) B X) := Lib.hid (by rw [HT.out]; exact HE.out.tick)
    clear HE hS0
    go_wp2_with fail
    refine HCC.out _ _ _ _ _ _ _ _ _ _ _ _ _ _ _ _ _ _ _ _ _ _ _ _ _ _ _ _ _ _ _ _ _ _ _ _ _ _ _ _ _ _ _ _ _ _ _ _ _ _ _ _ _ _ _ _ _ _ _ _ _ _ _ _ _ _ _ _ _ _ _ _ _ _ _ _ _ _ _ _ _ _ _ _ _ _ _ _ _ _ _ _ _ _ _ _ _ _ _ _ _ _ _ _ _ _ _ _ _ _ _ _ _ _ _ _ ⟨L, A, c, A', c', H, [], B, X, [], none, 0, rfl, rfl, Lib.hid (Gr.OwnG.nil _ _), HS, HM, Lib.hid (by rw [show nos [] = [] from rfl, List.append_nil]; exact HE2.out), Lib.hid ⟨(fun p hp => by cases hp), by simp [nos]⟩, LW⟩
  · have hS1 : 0 < S.length := by omega
    obtain ⟨k, hkm, hkl⟩ := umod32 nn S.length hS1 (by omega)
    obtain ⟨M, F, hks, hE2, _, hF1, hF2⟩ := HE.out.des hkl
    have HE2 : Hid (Ex M b T H (S.eraseIdx k) (List.range m) B (X ++ nos F)) := Lib.hid (by rw [HT.out]; exact hE2)
    have HN0 : Hid ((∀ p ∈ F, ∃ n : Nat, p.addr = (n : Int) ∧ n < B.length ∧ n ∉ X) ∧ (nos F).Nodup) := Lib.hid ⟨hF1, hF2⟩
    have hE : Hid (Fit L ∧ Small L) := Lib.hid (by have h := HE.out.fit (by have := HE.out.bt; omega); exact ⟨h.1, h.2.1⟩)
    have HKL2 : Hid (Calls Try.prog 8 #[.agg #[.int .i64 L.base, .slice A L.snaps.length c, .slice A' L.dead.length c'], .int .i64 (k : Int)] wr fun e w' => DesPost 51 wr (M, F, 0) e w') := Lib.hid (by
      obtain ⟨_, vs9, hv9⟩ := HS.out
      rw [← hks]
      exact destroy_at wr L (k : Int) A A' c c' hE.out.1 hE.out.2 hv9.rs.1 hv9.rs.2 hv9.rd.1 hv9.rd.2)
    obtain ⟨gs, cz, cuz, hvz, _, _, hlz, _, _, _, _⟩ := own_in (fun _ => rfl) HVS.out.1 (by rw [HVS.out.2.1]; exact hS1)
    rw [HVS.out.2.1] at hvz hlz
    injection hvz with e1 e2 e3
    clear e2
    subst e1
    subst e3
    clear hks hE2 hF1 hF2 HE hE hlz
    have q0 : wr.cell? ⟨g, 0, none⟩ = some (.int .i64 L.base) := HS.out.1.cell 0
    have q1 : wr.cell? ⟨g, 1, none⟩ = some (.slice A L.snaps.length c) := HS.out.1.cell 1
    have q2 : wr.cell? ⟨g, 2, none⟩ = some (.slice A' L.dead.length c') := HS.out.1.cell 2
    go_upto_region 44 with (fail)
    rw [hkm]
    clear kn hkm
    go_wp2_with fail
    refine HKL2.out.mono ?_
    rintro e V3 ⟨v, f, rfl, ⟨Ak, ck, Dk, dk1, vsk, rfl, hOk⟩, hf, b3⟩
    obtain ⟨A16, c16, hv16, _, _, _, _, _⟩ := hf.shape (fun _ => rfl)
    subst hv16
    clear q0 q1 q2 HKL2
    have hOk0 := hOk.base_ (Nat.zero_le _)
    have z := HS.out.1.below b3 HS.out.1.lt
    have u0 : V3.cell? ⟨g, 0, none⟩ = some (.int .i64 L.base) := z.cell 0
    have u1 : V3.cell? ⟨g, 1, none⟩ = some (.slice A L.snaps.length c) := z.cell 1
    have u2 : V3.cell? ⟨g, 2, none⟩ = some (.slice A' L.dead.length c') := z.cell 2
    have v0 : V3.frozen? ⟨g, 0, none⟩ = false := z.frozen 0
    have v1 : V3.frozen? ⟨g, 1, none⟩ = false := z.frozen 1
    have v2 : V3.frozen? ⟨g, 2, none⟩ = false := z.frozen 2
    obtain ⟨W4, hW4⟩ : ∃ W4, W4 = ((V3.setCell ⟨g, 0, none⟩ (.int .i64 M.base)).setCell ⟨g, 1, none⟩ (.slice Ak M.snaps.length ck)).setCell ⟨g, 2, none⟩ (.slice Dk M.dead.length dk1) := ⟨_, rfl⟩
    have HX4 := Lib.hid hW4
    have HSW4 : Hid (LS W4 g M Ak ck Dk dk1) := Lib.hid (by rw [hW4]; exact ls_put z hOk0)
    have LWW4 : Hid (Below w.heap.size w W4) := Lib.hid (by rw [hW4]; exact put_below (LW.out.trans (b3.mono LW.out.size)) HG.out)
    have hfar : ∀ g', g' ≠ g → W4.heap[g']? = V3.heap[g']? := fun g' hg' => by rw [hW4]; exact put_far hg'
    have HMW4 := Lib.hid ((HM.out.below b3).put z (by unfold rowT; decide) (by rw [hW4]; simp [World.setCell]) hfar)
    have HFW4 : Hid (OwnP W4 0 (.slice A16 F.length c16) F) := Lib.hid ((own_base hf (Nat.zero_le _)).keep fun g' hg' => by
      obtain ⟨cu, hcu⟩ := hf.blk_of hg'
      exact hfar g' (Blk.ne_ hcu z (by decide)))
    clear hf
    clear hW4 z hfar b3 hOk hOk0 HS HM LW
    go_upto_region 45 with (fail)
    rw [← HX4.out]
    clear HX4
    clear u0 v0 u1 v1 u2 v2
    obtain ⟨vs1, hvs1⟩ := HMW4.out.oS
    have HV1 := Lib.hid hvs1
    have hv1l : S.length = vs1.length := hvs1.2.1.symm
    have HV1L := Lib.hid hv1l
    have HRS : Hid (Gr.RdG 1 csR W4.drew (some ⟨gs, 0, none⟩) vs1) := Lib.hid ((hvs1.1.rd_some (fun _ => rfl)).below (Below.refl _ _).drew)
    clear hvs1 hv1l
    have HT0 : Hid True := Lib.hid trivial
    go_upto_region 45 with (fail)
    refine region_anyZ (fun _ => True) 11 (by kernel_rfl) ?_
    refine takeG 1 (.move (.tmp 10)) (some 181) none (.slice (some ⟨gs, 0, none⟩) S.length c10) (by kernel_rfl) (by kernel_rfl) (by kernel_rfl) (fun _ _ _ h => HQ.out _ _ _ _ _ h) (fun o' wq e hS => exec_move wq e (by kernel_rfl)) HT0.out ?_
    refine takeG 2 (.move (.tmp 21)) (some 182) none (.int .i64 (k : Int)) (by kernel_rfl) (by kernel_rfl) (by kernel_rfl) (fun _ _ _ h => HQ.out _ _ _ _ _ h) (fun o' wq e hS => exec_move wq e (by kernel_rfl)) HT0.out ?_
    refine takeG 3 (.slice 30 (.tmp 181) .none (.some (.tmp 182)) .none) (some 183) none (.slice (some ⟨gs, 0, none⟩) k c10) (by kernel_rfl) (by kernel_rfl) (by kernel_rfl) (fun _ _ _ h => HQ.out _ _ _ _ _ h) (fun o' wq e hS => exec_slice (u := .slice (some ⟨gs, 0, none⟩) S.length c10) wq e (by kernel_rfl) (by kernel_rfl) (by kernel_rfl) (by kernel_rfl) (slice_to_g und_rows size_row1 gs S.length c10 k (by omega) _)) HT0.out ?_
    refine takeG 5 (.move (.tmp 10)) (some 185) none (.slice (some ⟨gs, 0, none⟩) S.length c10) (by kernel_rfl) (by kernel_rfl) (by kernel_rfl) (fun _ _ _ h => HQ.out _ _ _ _ _ h) (fun o' wq e hS => exec_move wq e (by kernel_rfl)) HT0.out ?_
    refine takeG 6 (.move (.tmp 21)) (some 186) none (.int .i64 (k : Int)) (by kernel_rfl) (by kernel_rfl) (by kernel_rfl) (fun _ _ _ h => HQ.out _ _ _ _ _ h) (fun o' wq e hS => exec_move wq e (by kernel_rfl)) HT0.out ?_
    refine takeG 7 (.binOp .add 3 (.tmp 186) (.const (.int .i64 1)) 3) (some 187) none (.int .i64 ((k + 1 : Nat) : Int)) (by kernel_rfl) (by kernel_rfl) (by kernel_rfl) (fun _ _ _ h => HQ.out _ _ _ _ _ h) (fun o' wq e hS => exec_bin (u1 := .int .i64 (k : Int)) (u2 := (.int .i64 1)) wq e (by kernel_rfl) (by kernel_rfl) (eqG_int ..) (add_oneK k (by omega) _)) HT0.out ?_
    refine takeG 8 (.slice 30 (.tmp 185) (.some (.tmp 187)) .none .none) (some 188) none (.slice (some ⟨gs, Nr.offL c10 (k + 1), none⟩) (S.length - (k + 1)) (c10 - (k + 1))) (by kernel_rfl) (by kernel_rfl) (by kernel_rfl) (fun _ _ _ h => HQ.out _ _ _ _ _ h) (fun o' wq e hS => exec_slice (u := .slice (some ⟨gs, 0, none⟩) S.length c10) wq e (by kernel_rfl) (by kernel_rfl) (by kernel_rfl) (by kernel_rfl) (slice_from_g und_rows size_row1 gs S.length c10 (k + 1) (by omega) _)) HT0.out ?_
    refine loneG 0 (.buildSlice 30 0 #[]) (some 180) none (by kernel_rfl) (by kernel_rfl) (by kernel_rfl) ?_
    intro o' ho hod
    refine wp_val (exec_bld0 ho (bs_rows _)) ?_
    rw [hod]
    clear hod ho
    refine ⟨fun _ => trivial, ?_⟩
    refine loneG 4 (.call ⟨.builtin .append, #[(.tmp 180), (.tmp 183)], #[30, 30]⟩) (some 184) none (by kernel_rfl) (by kernel_rfl) (by kernel_rfl) ?_
    intro o' ho hod
    refine wp_app_g (v := .slice (some ⟨W4.drew.heap.size, 0, none⟩) 0 0) (y := .slice (some ⟨gs, 0, none⟩) k c10) 30 (.tmp 180) (.tmp 183) ho (by kernel_rfl) (by kernel_rfl) (fun ty => cut_g (c := c10) (fun _ => rfl) oneR Try.underlying30 info_row rfl (by omega) HRS.out HV1L.out hkl (by omega) ty) ?_
    rintro v6 w6 ⟨ho6, hb6⟩
    rw [hod]
    clear hod ho
    refine ⟨fun _ => trivial, ?_⟩
    refine loneG 9 (.call ⟨.builtin .append, #[(.tmp 184), (.tmp 188)], #[30, 30]⟩) (some 189) none (by kernel_rfl) (by kernel_rfl) (by kernel_rfl) ?_
    intro o' ho hod
    refine wp_app_g (v := v6) (y := .slice (some ⟨gs, Nr.offL c10 (k + 1), none⟩) (S.length - (k + 1)) (c10 - (k + 1))) 30 (.tmp 184) (.tmp 188) ho (by kernel_rfl) (by kernel_rfl) (fun ty => cut2_g (c := c10) (fun _ => rfl) oneR Try.underlying30 info_row rfl (by omega) HRS.out HV1L.out l10 hkl (by omega) ho6 hb6 ty) ?_
    rintro v7 v9w ⟨ho7, hb7⟩
    rw [hod]
    clear hod ho
    refine ⟨fun _ => trivial, ?_⟩
    refine lastS 10 (.assign (.tmp 189)) (some 10) (v7) (by kernel_rfl) (by kernel_rfl) (by kernel_rfl) HT0.out (fun o' e => exec_assign _ e (by kernel_rfl)) ?_
    simp only [put_some, put_none, List.setIfInBounds_toArray, List.set_cons_succ, List.set_cons_zero]
    have hb9 : Below W4.heap.size W4 v9w := (Below.refl _ _).drew.trans hb7
    have HM5 := Lib.hid (HMW4.out.less HV1.out (k := k) ho7 hb9)
    have HS5 := Lib.hid (HSW4.out.below hb9)
    have LW5 := Lib.hid (LWW4.out.trans (hb9.mono LWW4.out.size))
    have HF5 : Hid (OwnP v9w 0 (.slice A16 F.length c16) F) := Lib.hid (HFW4.out.below hb9 (Nat.le_refl _))
    clear ho7 hb7 hb9 ho6 hb6 HMW4 HSW4 LWW4 HFW4 HV1 HRS
    go_wp2_with fail
    refine HKK.out _ _ _ _ _ _ _ _ _ _ _ _ _ _ _ _ _ _ _ _ _ _ _ _ _ _ _ _ _ _ _ _ _ _ _ _ _ _ _ _ _ _ _ _ _ _ _ _ _ _ _ _ _ _ _ _ _ _ _ _ _ _ _ _ _ _ _ _ _ _ _ _ _ _ _ _ _ _ _ _ _ _ _ _ _ _ _ _ _ _ _ _ _ _ _ _ _ _ _ _ _ _ _ _ _ _ _ _ _ _ _ _ _ _ _ _ _ ?_
    exact ⟨M, Ak, ck, Dk, dk1, H, S.eraseIdx k, B, X, F, A16, c16, rfl, rfl, HF5, HS5, HM5, HE2, HN0, LW5⟩
end Dd
end Go.Proofs.Ytefgofoocabkkaa
