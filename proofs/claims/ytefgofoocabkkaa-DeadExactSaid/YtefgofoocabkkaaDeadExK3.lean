/-
  The law's switch, an arm of it. The conditions: what stands ahead of it.
-/
import Derived.Test.YtefgofoocabkkaaDeadExK0M
import Derived.Test.YtefgofoocabkkaaDeadKnown
import Derived.Test.YtefgofoocabkkaaDeadCopyM
import Derived.Test.YtefgofoocabkkaaDeadBack
namespace Go.Proofs.Ytefgofoocabkkaa
open Go Go.RowKit
set_option maxRecDepth 100000
set_option linter.unusedVariables false
namespace Dd
open Nr (OwnN csN)
set_option maxHeartbeats 25600000 in
theorem sw3 (w wr : World) (b t T m g g1 o1 i len2 cap2 : Nat) (nn : Int) (v9 v10 v11 v12 v13 : Value) (L : Ln) (A : Option Addr) (c : Nat) (A' : Option Addr) (c' : Nat) (H : List Nat) (S : List (List Nat)) (B X : List Nat)
    {x1 x3 x4 x5 x6 x14 x18 x19 x20 x21 x22 x23 x24 x25 x26 x27 x28 x29 x30 x31 x32 x33 x34 x35 x36 x37 x38 x39 x40 x41 x42 x43 x44 x45 x46 x47 x48 x49 x50 x51 x52 x53 x54 x55 x56 x57 x58 x59 x60 x61 x62 x63 x64 x65 x66 x67 x68 x69 x70 x71 x72 x73 x74 x75 x76 x77 x78 x79 x80 x81 x82 x84 x85 x86 x87 x88 x89 x90 x91 x92 x93 x94 x95 x96 x97 x98 x99 x100 x101 x102 x103 x104 x105 x106 x107 x108 x109 x110 x111 x112 x113 x114 x115 x116 x117 x118 x119 x120 x121 x122 x123 x124 x125 x126 x127 x128 x129 x130 x131 x132 x133 x134 x135 x136 x137 x138 x139 x140 x141 x142 x143 x144 x145 x146 x147 x148 x149 x150 x151 x152 x153 x154 x155 x156 x157 x158 x159 x160 x161 x162 x163 x164 x165 x166 x167 x168 x169 x170 x171 x172 x173 x174 x175 x176 x177 x178 x179 x180 x181 x182 x183 x184 x185 x186 x187 x188 x189 x190 x191 x192 x193 x194 x195 x196 x197 x198 x199 x200 x201 x202 x203 x204 x205 x206 x207 x208 x209 x210 x211 x212 x213 x214 x215 x216 x217 x218 x219 x220 x221 x222 x223 x224 x225 x226 x227 x228 x229 x230 x231 x232 x233 x234 x235 x236 x237 x238 x239 x240 x241 x242 x243 x244 x245 x246 x247 x248 x249 x250 x251 x252 x253 x254 x255 x256 x257 x258 x259 x260 x261 x262 x263 x264 x265 x266 x267 : Value} {C : Code} (hC : Try.f3.body.bind (fb 4) = some C) {Q : Exit → Act → World → Prop} (hQ : ∀ c a d v w, Q (.panic c) (a.put d v) w → Q (.panic c) a w)
    (hi2 : i < len2) (hlc : len2 ≤ cap2) (hi80 : i < 80) (ht : t ≤ 181) (hT : T = t + 1) (HG : Hid (w.heap.size ≤ g)) (kn : wr.cell? ⟨g1, o1 + i * 2 + 1, none⟩ = some (.int .i64 nn)) (HS : Hid (LS wr g L A c A' c')) (HM : Hid (Mm wr w.heap.size v9 v11 v10 v12 v13 H (List.range m) S B (frL B.length X))) (HE : Hid (Ex L b t H S (List.range m) B X)) (LW : Hid (Below w.heap.size w wr))
    (hK : ∀ (z9 z10 z12 z13 z16 z17 z18 z19 z20 z21 z84 z85 z86 z87 z88 z89 z90 z91 z92 z93 z94 z95 z96 z97 z98 z99 z100 z101 z102 z103 z104 z105 z106 z107 z108 z109 z110 z111 z112 z113 z114 z115 z116 z117 z118 z119 z120 z121 z122 z123 z124 z125 z126 z127 z128 z129 z130 z131 z132 z133 z134 z135 z136 z137 z138 z139 z140 z141 z142 z143 z144 z145 z146 z147 z148 z149 z150 z151 z152 z153 z154 z155 z156 z157 z158 z159 z160 z161 z162 z163 z164 z165 z166 z167 z168 z169 z170 z171 z172 z173 z174 z175 z176 z177 z178 z179 z180 z181 z182 z183 z184 z185 z186 z187 z188 z189 : Value) (wx : World), SwPost w b T m g v11 z9 z10 z12 z13 z16 z17 wx → Q .normal { tmps := #[.int .i64 (b : Int), x1, .slice (some ⟨g1, o1, none⟩) len2 cap2, x3, x4, x5, x6, .int .i64 (T : Int), .pointer (some ⟨g, 0, none⟩), z9, z10, v11, z12, z13, x14, .int .i64 (i : Int), z16, z17, z18, z19, z20, z21, x22, x23, x24, x25, x26, x27, x28, x29, x30, x31, x32, x33, x34, x35, x36, x37, x38, x39, x40, x41, x42, x43, x44, x45, x46, x47, x48, x49, x50, x51, x52, x53, x54, x55, x56, x57, x58, x59, x60, x61, x62, x63, x64, x65, x66, x67, x68, x69, x70, x71, x72, x73, x74, x75, x76, x77, x78, x79, x80, x81, x82, .int .i64 3, z84, z85, z86, z87, z88, z89, z90, z91, z92, z93, z94, z95, z96, z97, z98, z99, z100, z101, z102, z103, z104, z105, z106, z107, z108, z109, z110, z111, z112, z113, z114, z115, z116, z117, z118, z119, z120, z121, z122, z123, z124, z125, z126, z127, z128, z129, z130, z131, z132, z133, z134, z135, z136, z137, z138, z139, z140, z141, z142, z143, z144, z145, z146, z147, z148, z149, z150, z151, z152, z153, z154, z155, z156, z157, z158, z159, z160, z161, z162, z163, z164, z165, z166, z167, z168, z169, z170, z171, z172, z173, z174, z175, z176, z177, z178, z179, z180, z181, z182, z183, z184, z185, z186, z187, z188, z189, x190, x191, x192, x193, x194, x195, x196, x197, x198, x199, x200, x201, x202, x203, x204, x205, x206, x207, x208, x209, x210, x211, x212, x213, x214, x215, x216, x217, x218, x219, x220, x221, x222, x223, x224, x225, x226, x227, x228, x229, x230, x231, x232, x233, x234, x235, x236, x237, x238, x239, x240, x241, x242, x243, x244, x245, x246, x247, x248, x249, x250, x251, x252, x253, x254, x255, x256, x257, x258, x259, x260, x261, x262, x263, x264, x265, x266, x267], defers := [] } wx) :
    Code.wp Try.prog C Q { tmps := #[.int .i64 (b : Int), x1, .slice (some ⟨g1, o1, none⟩) len2 cap2, x3, x4, x5, x6, .int .i64 (T : Int), .pointer (some ⟨g, 0, none⟩), v9, v10, v11, v12, v13, x14, .int .i64 (i : Int), .slice none 0 0, .int .i64 0, x18, x19, x20, x21, x22, x23, x24, x25, x26, x27, x28, x29, x30, x31, x32, x33, x34, x35, x36, x37, x38, x39, x40, x41, x42, x43, x44, x45, x46, x47, x48, x49, x50, x51, x52, x53, x54, x55, x56, x57, x58, x59, x60, x61, x62, x63, x64, x65, x66, x67, x68, x69, x70, x71, x72, x73, x74, x75, x76, x77, x78, x79, x80, x81, x82, .int .i64 3, x84, x85, x86, x87, x88, x89, x90, x91, x92, x93, x94, x95, x96, x97, x98, x99, x100, x101, x102, x103, x104, x105, x106, x107, x108, x109, x110, x111, x112, x113, x114, x115, x116, x117, x118, x119, x120, x121, x122, x123, x124, x125, x126, x127, x128, x129, x130, x131, x132, x133, x134, x135, x136, x137, x138, x139, x140, x141, x142, x143, x144, x145, x146, x147, x148, x149, x150, x151, x152, x153, x154, x155, x156, x157, x158, x159, x160, x161, x162, x163, x164, x165, x166, x167, x168, x169, x170, x171, x172, x173, x174, x175, x176, x177, x178, x179, x180, x181, x182, x183, x184, x185, x186, x187, x188, x189, x190, x191, x192, x193, x194, x195, x196, x197, x198, x199, x200, x201, x202, x203, x204, x205, x206, x207, x208, x209, x210, x211, x212, x213, x214, x215, x216, x217, x218, x219, x220, x221, x222, x223, x224, x225, x226, x227, x228, x229, x230, x231, x232, x233, x234, x235, x236, x237, x238, x239, x240, x241, x242, x243, x244, x245, x246, x247, x248, x249, x250, x251, x252, x253, x254, x255, x256, x257, x258, x259, x260, x261, x262, x263, x264, x265, x266, x267], defers := [] } wr := by
  have i1 : (i : Int) < (len2 : Int) := by omega
  have HKK := Lib.hid hK
  clear hK
  have HQ := Lib.hid hQ
  clear hQ
  have HT := Lib.hid hT
  have hT3 : T ≤ 190 := by omega
  clear hT
  have hHl : H.length ≤ 200 := by have := HE.out.cl; omega
  have hSl : S.length ≤ 200 := by have := HE.out.sl; omega
  have hBl : B.length ≤ 200 := by have := HE.out.bl; omega
  obtain ⟨A9, c9, hv9, r9, l9, m9, n9, _⟩ := HM.out.oH.shape (fun _ => rfl)
  subst hv9
  have HR9 := Lib.hid (⟨r9, n9⟩ : _ ∧ _)
  obtain ⟨vs, oS1, oS2, oS3⟩ := HM.out.oS
  have HVS := Lib.hid (⟨oS1, oS2, oS3⟩ : _ ∧ _ ∧ _)
  obtain ⟨A10, c10, hv10, r10, l10, m10, n10, _⟩ := oS1.shape (fun _ => rfl)
  rw [oS2] at hv10 l10
  subst hv10
  have HR10 := Lib.hid (⟨r10, n10⟩ : _ ∧ _)
  obtain ⟨A12, c12, hv12, r12, l12, m12, n12, _⟩ := HM.out.oB.shape (fun _ => rfl)
  subst hv12
  have HR12 := Lib.hid (⟨r12, n12⟩ : _ ∧ _)
  obtain ⟨A13, c13, hv13, r13, l13, m13, n13, _⟩ := HM.out.oF.shape (fun _ => rfl)
  rw [frL_len] at hv13 l13
  subst hv13
  unfold maxLen at m9 m10 m12 m13
  clear r9 n9 oS1 oS2 oS3 r10 n10 r12 n12 r13 n13
  simp [Try.f3, fb] at hC
  subst hC
  obtain ⟨M, hks, hE2⟩ : ∃ M, snapS L (T : Int) = (M, 0) ∧ Ex M b T H (S ++ [H]) (List.range m) B (X ++ nos []) := by
    obtain ⟨h1, h2⟩ := HE.out.snap
    have e : (t : Int) + 1 = (T : Int) := by have := HT.out; omega
    rw [e] at h1 h2
    rw [← HT.out] at h2
    exact ⟨_, h1, by rw [show nos [] = [] from rfl, List.append_nil]; exact h2⟩
  have HE2 := Lib.hid hE2
  have HN0 : Hid ((∀ p ∈ ([] : List Pt), ∃ n : Nat, p.addr = (n : Int) ∧ n < (B).length ∧ n ∉ X) ∧ (nos []).Nodup) := Lib.hid ⟨(fun p hp => by cases hp), by simp [nos]⟩
  have hE : Hid (Fit L) := Lib.hid (HE.out.fit (by have := HE.out.bt; omega)).1
  have HKL2 : Hid (Calls Try.prog 7 #[.agg #[.int .i64 L.base, .slice A L.snaps.length c, .slice A' L.dead.length c'], .int .i64 (T : Int)] wr fun e w' => SnapPost 51 wr (M, 0) e w') := Lib.hid (by
    obtain ⟨_, vs9, hv9⟩ := HS.out
    rw [← hks]
    exact snapshot_at wr L (T : Int) A A' c c' hE.out hv9.rs.1 hv9.rs.2 hv9.rd.1 hv9.rd.2)
  clear hks hE2 HE
  have q0 : wr.cell? ⟨g, 0, none⟩ = some (.int .i64 L.base) := HS.out.1.cell 0
  have q1 : wr.cell? ⟨g, 1, none⟩ = some (.slice A L.snaps.length c) := HS.out.1.cell 1
  have q2 : wr.cell? ⟨g, 2, none⟩ = some (.slice A' L.dead.length c') := HS.out.1.cell 2
  go_wp2_with fail
  refine HKL2.out.mono ?_
  rintro e V3 ⟨v, rfl, ⟨Ak, ck, Dk, dk1, vsk, rfl, hOk⟩, b3⟩
  clear q0 q1 q2 HKL2
  have hOk0 := hOk.base_ (Nat.zero_le _)
  have z := HS.out.1.below b3 HS.out.1.lt
  have u0 : V3.cell? ⟨g, 0, none⟩ = some (.int .i64 L.base) := z.cell 0
  have u1 : V3.cell? ⟨g, 1, none⟩ = some (.slice A L.snaps.length c) := z.cell 1
  have u2 : V3.cell? ⟨g, 2, none⟩ = some (.slice A' L.dead.length c') := z.cell 2
  have v0 : V3.frozen? ⟨g, 0, none⟩ = false := z.frozen 0
  have v1 : V3.frozen? ⟨g, 1, none⟩ = false := z.frozen 1
  have v2 : V3.frozen? ⟨g, 2, none⟩ = false := z.frozen 2
  obtain ⟨W4, hW4⟩ : ∃ W4, W4 = ((V3.setCell ⟨g, 0, none⟩ (.int .i64 M.base)).setCell ⟨g, 1, none⟩ (.slice Ak M.snaps.length ck)).setCell ⟨g, 2, none⟩ (.slice Dk M.dead.length dk1) := ⟨_, rfl⟩
  have HX4 := Lib.hid hW4
  have HSW4 : Hid (LS W4 g M Ak ck Dk dk1) := Lib.hid (by rw [hW4]; exact ls_put z hOk0)
  have LWW4 : Hid (Below w.heap.size w W4) := Lib.hid (by rw [hW4]; exact put_below (LW.out.trans (b3.mono LW.out.size)) HG.out)
  have hfar : ∀ g', g' ≠ g → W4.heap[g']? = V3.heap[g']? := fun g' hg' => by rw [hW4]; exact put_far hg'
  have HMW4 := Lib.hid ((HM.out.below b3).put z (by unfold rowT; decide) (by rw [hW4]; simp [World.setCell]) hfar)

  clear hW4 z hfar b3 hOk hOk0 HS HM LW
  go_upto_region 40 with (fail)
  rw [← HX4.out]
  clear HX4
  clear u0 v0 u1 v1 u2 v2
  have HVW4 := Lib.hid HMW4.out.oS
  have HRW4 : Hid (Gr.RdG 1 csN W4 A9 H) := Lib.hid (HMW4.out.oH.rd_some (fun _ => rfl))
  have HNW4 : Hid (A9 = none → c9 = 0) := Lib.hid HR9.out.2
  go_wp2_with (at_builtin; refine wpList_app_g rfl 29 (.tmp 152) (.tmp 153) rfl rfl rfl (fun ty => copyN rfl HRW4.out HNW4.out (by omega) ty) ?_; intro v5 W1 hap; refine of_hid ?_)
  refine Lib.hid ?_
  obtain ⟨ho1, hb1⟩ := hap
  obtain ⟨A5, c5, hv5, _, _, _, _, _⟩ := ho1.shape (fun _ => rfl)
  subst hv5
  have HO1 := Lib.hid ho1
  have HM1 := Lib.hid (HMW4.out.below hb1)
  have HS1 := Lib.hid (HSW4.out.below hb1)
  have LW1 := Lib.hid (LWW4.out.trans (hb1.mono LWW4.out.size))
  have HOF : Hid (Off (RV.v ⟨A5, H.length, c5⟩) (.slice A12 B.length c12)) := Lib.hid fun g' hg' e => by
    have h1 := (ho1.lt hg').2
    have h2 := (HMW4.out.oB.lt e).1
    omega
  have HOB : Hid (OwnN W1 w.heap.size (RV.v ⟨A5, H.length, c5⟩) H) := Lib.hid (own_base ho1 HMW4.out.sz)
  clear ho1 hb1 HMW4 HSW4 LWW4 HVW4 HRW4 HNW4 HO1
  obtain ⟨vs1, hvs1⟩ := HM1.out.oS
  have HV1 := Lib.hid hvs1
  have hvsl : vs1.length ≤ 200 := by rw [hvs1.2.1]; exact hSl
  clear hvs1
  go_wp2_with (at_builtin; refine wpList_app_g rfl 30 (.tmp 151) (.tmp 155) rfl rfl rfl (fun ty => appR HV1.out.1 ⟨A5, H.length, c5⟩ (by omega) HM1.out.sz ty) ?_; intro v10 W2 hap; refine of_hid ?_)
  refine Lib.hid ?_
  obtain ⟨ho2, hb2, hr2⟩ := hap
  have HM2 := Lib.hid (HM1.out.snap HV1.out HOB.out HOF.out ho2 hr2)
  have HS2 := Lib.hid (HS1.out.rowC HV1.out.1 (by unfold rowT; simp) hr2)
  have LW2 := Lib.hid (LW1.out.trans hb2)
  have HF0 : Hid (OwnP W2 0 (.slice none ([] : List Pt).length 0) []) := Lib.hid (Gr.OwnG.nil _ _)
  clear ho2 hb2 hr2 HM1 HS1 LW1 HOF HOB HV1
  go_wp2_with fail
  refine HKK.out _ _ _ _ _ _ _ _ _ _ _ _ _ _ _ _ _ _ _ _ _ _ _ _ _ _ _ _ _ _ _ _ _ _ _ _ _ _ _ _ _ _ _ _ _ _ _ _ _ _ _ _ _ _ _ _ _ _ _ _ _ _ _ _ _ _ _ _ _ _ _ _ _ _ _ _ _ _ _ _ _ _ _ _ _ _ _ _ _ _ _ _ _ _ _ _ _ _ _ _ _ _ _ _ _ _ _ _ _ _ _ _ _ _ _ _ _ ?_
  exact ⟨M, Ak, ck, Dk, dk1, H, S ++ [H], B, X, [], none, 0, rfl, rfl, HF0, HS2, HM2, HE2, HN0, LW2⟩
end Dd
end Go.Proofs.Ytefgofoocabkkaa
