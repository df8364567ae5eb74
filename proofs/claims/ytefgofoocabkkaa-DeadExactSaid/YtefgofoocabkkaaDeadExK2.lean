/-
  The law's switch, an arm of it. The conditions: what stands ahead of it.
-/
import Derived.Test.YtefgofoocabkkaaDeadExK0M
import Derived.Test.YtefgofoocabkkaaDeadKnown
import Derived.Test.YtefgofoocabkkaaDeadCopyM
import Derived.Test.YtefgofoocabkkaaDeadBack
namespace Go.Proofs.Ytefgofoocabkkaa
open Go Go.RowKit
set_option maxRecDepth 100000
set_option linter.unusedVariables false
namespace Dd
open Nr (OwnN csN)
theorem size_pt : (Try.prog.info? 36).map (·.size) = some 4 := by kernel_rfl
theorem alloc_pt (w : World) : (Instr.alloc 36 true (.tuple #[])).run Try.prog w = .ok (.pointer (some ⟨w.heap.size, 0, none⟩)) (w.alloc (.cells #[.int .i64 0, .int .i64 0, .int .i64 0, .string ⟨#[]⟩] 36)) := by kernel_rfl
set_option maxHeartbeats 25600000 in
theorem sw2 (w wr : World) (b t T m g g1 o1 i len2 cap2 : Nat) (nn : Int) (v9 v10 v11 v12 v13 : Value) (L : Ln) (A : Option Addr) (c : Nat) (A' : Option Addr) (c' : Nat) (H : List Nat) (S : List (List Nat)) (B X : List Nat)
    {x1 x3 x4 x5 x6 x14 x18 x19 x20 x21 x22 x23 x24 x25 x26 x27 x28 x29 x30 x31 x32 x33 x34 x35 x36 x37 x38 x39 x40 x41 x42 x43 x44 x45 x46 x47 x48 x49 x50 x51 x52 x53 x54 x55 x56 x57 x58 x59 x60 x61 x62 x63 x64 x65 x66 x67 x68 x69 x70 x71 x72 x73 x74 x75 x76 x77 x78 x79 x80 x81 x82 x84 x85 x86 x87 x88 x89 x90 x91 x92 x93 x94 x95 x96 x97 x98 x99 x100 x101 x102 x103 x104 x105 x106 x107 x108 x109 x110 x111 x112 x113 x114 x115 x116 x117 x118 x119 x120 x121 x122 x123 x124 x125 x126 x127 x128 x129 x130 x131 x132 x133 x134 x135 x136 x137 x138 x139 x140 x141 x142 x143 x144 x145 x146 x147 x148 x149 x150 x151 x152 x153 x154 x155 x156 x157 x158 x159 x160 x161 x162 x163 x164 x165 x166 x167 x168 x169 x170 x171 x172 x173 x174 x175 x176 x177 x178 x179 x180 x181 x182 x183 x184 x185 x186 x187 x188 x189 x190 x191 x192 x193 x194 x195 x196 x197 x198 x199 x200 x201 x202 x203 x204 x205 x206 x207 x208 x209 x210 x211 x212 x213 x214 x215 x216 x217 x218 x219 x220 x221 x222 x223 x224 x225 x226 x227 x228 x229 x230 x231 x232 x233 x234 x235 x236 x237 x238 x239 x240 x241 x242 x243 x244 x245 x246 x247 x248 x249 x250 x251 x252 x253 x254 x255 x256 x257 x258 x259 x260 x261 x262 x263 x264 x265 x266 x267 : Value} {C : Code} (hC : Try.f3.body.bind (fb 4) = some C) {Q : Exit → Act → World → Prop} (hQ : ∀ c a d v w, Q (.panic c) (a.put d v) w → Q (.panic c) a w)
    (hi2 : i < len2) (hlc : len2 ≤ cap2) (hi80 : i < 80) (ht : t ≤ 181) (hT : T = t + 1) (HG : Hid (w.heap.size ≤ g)) (kn : wr.cell? ⟨g1, o1 + i * 2 + 1, none⟩ = some (.int .i64 nn)) (HS : Hid (LS wr g L A c A' c')) (HM : Hid (Mm wr w.heap.size v9 v11 v10 v12 v13 H (List.range m) S B (frL B.length X))) (HE : Hid (Ex L b t H S (List.range m) B X)) (LW : Hid (Below w.heap.size w wr))
    (hK : ∀ (z9 z10 z12 z13 z16 z17 z18 z19 z20 z21 z84 z85 z86 z87 z88 z89 z90 z91 z92 z93 z94 z95 z96 z97 z98 z99 z100 z101 z102 z103 z104 z105 z106 z107 z108 z109 z110 z111 z112 z113 z114 z115 z116 z117 z118 z119 z120 z121 z122 z123 z124 z125 z126 z127 z128 z129 z130 z131 z132 z133 z134 z135 z136 z137 z138 z139 z140 z141 z142 z143 z144 z145 z146 z147 z148 z149 z150 z151 z152 z153 z154 z155 z156 z157 z158 z159 z160 z161 z162 z163 z164 z165 z166 z167 z168 z169 z170 z171 z172 z173 z174 z175 z176 z177 z178 z179 z180 z181 z182 z183 z184 z185 z186 z187 z188 z189 : Value) (wx : World), SwPost w b T m g v11 z9 z10 z12 z13 z16 z17 wx → Q .normal { tmps := #[.int .i64 (b : Int), x1, .slice (some ⟨g1, o1, none⟩) len2 cap2, x3, x4, x5, x6, .int .i64 (T : Int), .pointer (some ⟨g, 0, none⟩), z9, z10, v11, z12, z13, x14, .int .i64 (i : Int), z16, z17, z18, z19, z20, z21, x22, x23, x24, x25, x26, x27, x28, x29, x30, x31, x32, x33, x34, x35, x36, x37, x38, x39, x40, x41, x42, x43, x44, x45, x46, x47, x48, x49, x50, x51, x52, x53, x54, x55, x56, x57, x58, x59, x60, x61, x62, x63, x64, x65, x66, x67, x68, x69, x70, x71, x72, x73, x74, x75, x76, x77, x78, x79, x80, x81, x82, .int .i64 2, z84, z85, z86, z87, z88, z89, z90, z91, z92, z93, z94, z95, z96, z97, z98, z99, z100, z101, z102, z103, z104, z105, z106, z107, z108, z109, z110, z111, z112, z113, z114, z115, z116, z117, z118, z119, z120, z121, z122, z123, z124, z125, z126, z127, z128, z129, z130, z131, z132, z133, z134, z135, z136, z137, z138, z139, z140, z141, z142, z143, z144, z145, z146, z147, z148, z149, z150, z151, z152, z153, z154, z155, z156, z157, z158, z159, z160, z161, z162, z163, z164, z165, z166, z167, z168, z169, z170, z171, z172, z173, z174, z175, z176, z177, z178, z179, z180, z181, z182, z183, z184, z185, z186, z187, z188, z189, x190, x191, x192, x193, x194, x195, x196, x197, x198, x199, x200, x201, x202, x203, x204, x205, x206, x207, x208, x209, x210, x211, x212, x213, x214, x215, x216, x217, x218, x219, x220, x221, x222, x223, x224, x225, x226, x227, x228, x229, x230, x231, x232, x233, x234, x235, x236, x237, x238, x239, x240, x241, x242, x243, x244, x245, x246, x247, x248, x249, x250, x251, x252, x253, x254, x255, x256, x257, x258, x259, x260, x261, x262, x263, x264, x265, x266, x267], defers := [] } wx)
    (hcont : ∀ (z9 z10 z12 z13 z16 z17 z18 z19 z20 z21 z84 z85 z86 z87 z88 z89 z90 z91 z92 z93 z94 z95 z96 z97 z98 z99 z100 z101 z102 z103 z104 z105 z106 z107 z108 z109 z110 z111 z112 z113 z114 z115 z116 z117 z118 z119 z120 z121 z122 z123 z124 z125 z126 z127 z128 z129 z130 z131 z132 z133 z134 z135 z136 z137 z138 z139 z140 z141 z142 z143 z144 z145 z146 z147 z148 z149 z150 z151 z152 z153 z154 z155 z156 z157 z158 z159 z160 z161 z162 z163 z164 z165 z166 z167 z168 z169 z170 z171 z172 z173 z174 z175 z176 z177 z178 z179 z180 z181 z182 z183 z184 z185 z186 z187 z188 z189 : Value), SwPost w b T m g v11 z9 z10 z12 z13 (.slice none 0 0) (.int .i64 0) wr → Q (.exit 3) { tmps := #[.int .i64 (b : Int), x1, .slice (some ⟨g1, o1, none⟩) len2 cap2, x3, x4, x5, x6, .int .i64 (T : Int), .pointer (some ⟨g, 0, none⟩), z9, z10, v11, z12, z13, x14, .int .i64 (i : Int), z16, z17, z18, z19, z20, z21, x22, x23, x24, x25, x26, x27, x28, x29, x30, x31, x32, x33, x34, x35, x36, x37, x38, x39, x40, x41, x42, x43, x44, x45, x46, x47, x48, x49, x50, x51, x52, x53, x54, x55, x56, x57, x58, x59, x60, x61, x62, x63, x64, x65, x66, x67, x68, x69, x70, x71, x72, x73, x74, x75, x76, x77, x78, x79, x80, x81, x82, .int .i64 2, z84, z85, z86, z87, z88, z89, z90, z91, z92, z93, z94, z95, z96, z97, z98, z99, z100, z101, z102, z103, z104, z105, z106, z107, z108, z109, z110, z111, z112, z113, z114, z115, z116, z117, z118, z119, z120, z121, z122, z123, z124, z125, z126, z127, z128, z129, z130, z131, z132, z133, z134, z135, z136, z137, z138, z139, z140, z141, z142, z143, z144, z145, z146, z147, z148, z149, z150, z151, z152, z153, z154, z155, z156, z157, z158, z159, z160, z161, z162, z163, z164, z165, z166, z167, z168, z169, z170, z171, z172, z173, z174, z175, z176, z177, z178, z179, z180, z181, z182, z183, z184, z185, z186, z187, z188, z189, x190, x191, x192, x193, x194, x195, x196, x197, x198, x199, x200, x201, x202, x203, x204, x205, x206, x207, x208, x209, x210, x211, x212, x213, x214, x215, x216, x217, x218, x219, x220, x221, x222, x223, x224, x225, x226, x227, x228, x229, x230, x231, x232, x233, x234, x235, x236, x237, x238, x239, x240, x241, x242, x243, x244, x245, x246, x247, x248, x249, x250, x251, x252, x253, x254, x255, x256, x257, x258, x259, x260, x261, x262, x263, x264, x265, x266, x267], defers := [] } wr) :
    Code.wp Try.prog C Q { tmps := #[.int .i64 (b : Int), x1, .slice (some ⟨g1, o1, none⟩) len2 cap2, x3, x4, x5, x6, .int .i64 (T : Int), .pointer (some ⟨g, 0, none⟩), v9, v10, v11, v12, v13, x14, .int .i64 (i : Int), .slice none 0 0, .int .i64 0, x18, x19, x20, x21, x22, x23, x24, x25, x26, x27, x28, x29, x30, x31, x32, x33, x34, x35, x36, x37, x38, x39, x40, x41, x42, x43, x44, x45, x46, x47, x48, x49, x50, x51, x52, x53, x54, x55, x56, x57, x58, x59, x60, x61, x62, x63, x64, x65, x66, x67, x68, x69, x70, x71, x72, x73, x74, x75, x76, x77, x78, x79, x80, x81, x82, .int .i64 2, x84, x85, x86, x87, x88, x89, x90, x91, x92, x93, x94, x95, x96, x97, x98, x99, x100, x101, x102, x103, x104, x105, x106, x107, x108, x109, x110, x111, x112, x113, x114, x115, x116, x117, x118, x119, x120, x121, x122, x123, x124, x125, x126, x127, x128, x129, x130, x131, x132, x133, x134, x135, x136, x137, x138, x139, x140, x141, x142, x143, x144, x145, x146, x147, x148, x149, x150, x151, x152, x153, x154, x155, x156, x157, x158, x159, x160, x161, x162, x163, x164, x165, x166, x167, x168, x169, x170, x171, x172, x173, x174, x175, x176, x177, x178, x179, x180, x181, x182, x183, x184, x185, x186, x187, x188, x189, x190, x191, x192, x193, x194, x195, x196, x197, x198, x199, x200, x201, x202, x203, x204, x205, x206, x207, x208, x209, x210, x211, x212, x213, x214, x215, x216, x217, x218, x219, x220, x221, x222, x223, x224, x225, x226, x227, x228, x229, x230, x231, x232, x233, x234, x235, x236, x237, x238, x239, x240, x241, x242, x243, x244, x245, x246, x247, x248, x249, x250, x251, x252, x253, x254, x255, x256, x257, x258, x259, x260, x261, x262, x263, x264, x265, x266, x267], defers := [] } wr := by
  have i1 : (i : Int) < (len2 : Int) := by omega
  have HKK := Lib.hid hK
  clear hK
  have HQ := Lib.hid hQ
  clear hQ
  have HCC := Lib.hid hcont
  clear hcont
  have HT := Lib.hid hT
  have hT3 : T ≤ 190 := by omega
  clear hT
  have hHl : H.length ≤ 200 := by have := HE.out.cl; omega
  have hSl : S.length ≤ 200 := by have := HE.out.sl; omega
  have hBl : B.length ≤ 200 := by have := HE.out.bl; omega
  obtain ⟨A9, c9, hv9, r9, l9, m9, n9, _⟩ := HM.out.oH.shape (fun _ => rfl)
  subst hv9
  have HR9 := Lib.hid (⟨r9, n9⟩ : _ ∧ _)
  obtain ⟨vs, oS1, oS2, oS3⟩ := HM.out.oS
  have HVS := Lib.hid (⟨oS1, oS2, oS3⟩ : _ ∧ _ ∧ _)
  obtain ⟨A10, c10, hv10, r10, l10, m10, n10, _⟩ := oS1.shape (fun _ => rfl)
  rw [oS2] at hv10 l10
  subst hv10
  have HR10 := Lib.hid (⟨r10, n10⟩ : _ ∧ _)
  obtain ⟨A12, c12, hv12, r12, l12, m12, n12, _⟩ := HM.out.oB.shape (fun _ => rfl)
  subst hv12
  have HR12 := Lib.hid (⟨r12, n12⟩ : _ ∧ _)
  obtain ⟨A13, c13, hv13, r13, l13, m13, n13, _⟩ := HM.out.oF.shape (fun _ => rfl)
  rw [frL_len] at hv13 l13
  subst hv13
  unfold maxLen at m9 m10 m12 m13
  clear r9 n9 oS1 oS2 oS3 r10 n10 r12 n12 r13 n13
  simp [Try.f3, fb] at hC
  subst hC
  by_cases hH0 : H.length = 0
  · obtain rfl : H = [] := List.length_eq_zero_iff.1 hH0
    have HE2 : Hid (Ex L b T [] S (List.range m) B X) := Lib.hid (by rw [HT.out]; exact HE.out.tick)
    clear HE hH0
    go_wp2_with fail
    refine HCC.out _ _ _ _ _ _ _ _ _ _ _ _ _ _ _ _ _ _ _ _ _ _ _ _ _ _ _ _ _ _ _ _ _ _ _ _ _ _ _ _ _ _ _ _ _ _ _ _ _ _ _ _ _ _ _ _ _ _ _ _ _ _ _ _ _ _ _ _ _ _ _ _ _ _ _ _ _ _ _ _ _ _ _ _ _ _ _ _ _ _ _ _ _ _ _ _ _ _ _ _ _ _ _ _ _ _ _ _ _ _ _ _ _ _ _ _ ⟨L, A, c, A', c', [], S, B, X, [], none, 0, rfl, rfl, Lib.hid (Gr.OwnG.nil _ _), HS, HM, Lib.hid (by rw [show nos [] = [] from rfl, List.append_nil]; exact HE2.out), Lib.hid ⟨(fun p hp => by cases hp), by simp [nos]⟩, LW⟩
  · have hH1 : 0 < H.length := by omega
    obtain ⟨gh, ch, cuh, hvh, _, hgz, hlh, _, _, _, hrh⟩ := own_in (fun _ => rfl) HM.out.oH hH1
    injection hvh with e1 e2 e3
    clear e2
    subst e1
    subst e3
    have HRH := Lib.hid hrh
    clear hrh
    obtain ⟨k, hkm, hkl⟩ := umod32 nn H.length hH1 (by omega)
    obtain ⟨x, hx⟩ : ∃ x, H[k]? = some x := ⟨_, List.getElem?_eq_getElem hkl⟩
    obtain ⟨hxB, hxX⟩ := HE.out.hl x (List.mem_of_getElem? hx)
    obtain ⟨gb, cb, cub, hvb, _, hbz, hlb, _, _, _, hrb⟩ := own_in (fun _ => rfl) HM.out.oB hxB
    injection hvb with e1 e2 e3
    clear e2
    subst e1
    subst e3
    obtain ⟨y, hy⟩ : ∃ y, B[x]? = some y := ⟨_, List.getElem?_eq_getElem hxB⟩
    have hby : bn B x = y := by unfold bn; rw [hy]; rfl
    have cHk : wr.cell? ⟨gh, k, none⟩ = some (.int .i64 (x : Int)) := by
      obtain ⟨b', o', e1, _, hc⟩ := HRH.out k x hx
      injection e1 with e1
      injection e1 with e1 e2
      subst e1 e2
      have := hc 0 _ rfl
      rw [Nat.mul_one, Nat.zero_add, Nat.add_zero] at this
      exact this
    have cBx : wr.cell? ⟨gb, x, none⟩ = some (.int .i64 (y : Int)) := by
      obtain ⟨b', o', e1, _, hc⟩ := hrb x y hy
      injection e1 with e1
      injection e1 with e1 e2
      subst e1 e2
      have := hc 0 _ rfl
      rw [Nat.mul_one, Nat.zero_add, Nat.add_zero] at this
      exact this
    have HY := Lib.hid (⟨hx, hby⟩ : _ ∧ _)
    have hbd : Below wr.heap.size wr wr.drew := (Below.refl _ _).drew
    have hyb : y ≤ 200 := by have := (HE.out.br x hxB).2; omega
    have HT9 : Hid (wr.drew.cell? ⟨gh, k, none⟩ = some (.int .i64 (x : Int)) ∧ wr.drew.cell? ⟨gb, x, none⟩ = some (.int .i64 (y : Int))) := Lib.hid ⟨cHk, cBx⟩
    obtain ⟨gp, hgp⟩ : ∃ gp, gp = wr.drew.heap.size := ⟨_, rfl⟩
    have hba : Below wr.heap.size wr.drew (wr.drew.alloc (.cells #[.int .i64 0, .int .i64 0, .int .i64 0, .string ⟨#[]⟩] 36)) := (Below.refl wr.heap.size wr.drew).alloc (show wr.heap.size ≤ wr.drew.heap.size from Nat.le_refl _) _
    have HT8 : Hid ((wr.drew.alloc (.cells #[.int .i64 0, .int .i64 0, .int .i64 0, .string ⟨#[]⟩] 36)).cell? ⟨gh, k, none⟩ = some (.int .i64 (x : Int)) ∧ (wr.drew.alloc (.cells #[.int .i64 0, .int .i64 0, .int .i64 0, .string ⟨#[]⟩] 36)).cell? ⟨gb, x, none⟩ = some (.int .i64 (y : Int))) := Lib.hid (by
      exact ⟨(hba.cell (p := ⟨gh, k, none⟩) hgz).trans cHk, (hba.cell (p := ⟨gb, x, none⟩) hbz).trans cBx⟩)
    obtain ⟨W1, hst, hbW, hgW, hzW⟩ := store_blk (cs' := #[.int .i64 (x : Int), .int .i64 0, .int .i64 (y : Int), .string ⟨#[]⟩]) (Blk.new wr.drew 36 #[.int .i64 0, .int .i64 0, .int .i64 0, .string ⟨#[]⟩]) size_pt rfl (by simp [Value.oneCell'])
    have hB1 : Below wr.heap.size wr W1 := hbd.trans (hba.trans ⟨hgW.os, hgW.tape, hgW.output, hgW.size, fun g' hg' => hgW.block g' (by simp; omega) (fun e => by injection e with e; have e2 : g' = wr.heap.size := e; omega)⟩)
    have HM1 := Lib.hid (HM.out.below hB1)
    have HS1 := Lib.hid (HS.out.below hB1)
    have LW1 := Lib.hid (LW.out.trans (hB1.mono LW.out.size))
    have HST := Lib.hid hst
    have HP1 : Hid (Blk W1 gp 36 #[.int .i64 (x : Int), .int .i64 0, .int .i64 (y : Int), .string ⟨#[]⟩]) := Lib.hid (by rw [hgp]; exact hbW)
    have HR1 : Hid (Gr.RdG 1 csN W1 (some ⟨gh, 0, none⟩) H) := Lib.hid (HRH.out.below hB1)
    have HGP : Hid (gp = wr.drew.heap.size) := Lib.hid hgp
    clear hx hy hby hrb hlh hlb hgz hbz cHk cBx hbd hba hst hbW hgW hzW hB1 HRH hgp HM HS LW
    go_upto_region 32 with (fail)
    rw [hkm]
    clear kn hkm
    refine region_anyZ (fun w' => w'.cell? ⟨gh, k, none⟩ = some (.int .i64 (x : Int)) ∧ w'.cell? ⟨gb, x, none⟩ = some (.int .i64 (y : Int))) 13 (by kernel_rfl) ?_
    refine takeG 0 (.move (.tmp 9)) (some 116) none (.slice (some ⟨gh, 0, none⟩) H.length c9) (by kernel_rfl) (by kernel_rfl) (by kernel_rfl) (fun _ _ _ h => HQ.out _ _ _ _ _ h) (fun o' wq e hS => exec_move wq e (by kernel_rfl)) HT9.out ?_
    refine takeG 1 (.move (.tmp 18)) (some 117) none (.int .i64 (k : Int)) (by kernel_rfl) (by kernel_rfl) (by kernel_rfl) (fun _ _ _ h => HQ.out _ _ _ _ _ h) (fun o' wq e hS => exec_move wq e (by kernel_rfl)) HT9.out ?_
    refine takeG 2 (.indexAddr 29 (.tmp 116) (.tmp 117)) (some 118) none (.pointer (some ⟨gh, k, none⟩)) (by kernel_rfl) (by kernel_rfl) (by kernel_rfl) (fun _ _ _ h => HQ.out _ _ _ _ _ h) (fun o' wq e hS => exec_index (u1 := .slice (some ⟨gh, 0, none⟩) H.length c9) (u2 := .int .i64 (k : Int)) wq e (by kernel_rfl) (by kernel_rfl) (Nr.index_int gh H.length c9 k hkl _)) HT9.out ?_
    refine takeG 3 (.load 3 (.tmp 118)) (some 119) none (.int .i64 (x : Int)) (by kernel_rfl) (by kernel_rfl) (by kernel_rfl) (fun _ _ _ h => HQ.out _ _ _ _ _ h) (fun o' wq e hS => exec_load (x := (.tmp 118)) e (by kernel_rfl) (load_one Try.underlying3 (by kernel_rfl) hS.1)) HT9.out ?_
    refine takeG 4 (.move (.tmp 12)) (some 120) none (.slice (some ⟨gb, 0, none⟩) B.length c12) (by kernel_rfl) (by kernel_rfl) (by kernel_rfl) (fun _ _ _ h => HQ.out _ _ _ _ _ h) (fun o' wq e hS => exec_move wq e (by kernel_rfl)) HT9.out ?_
    refine takeG 5 (.move (.tmp 9)) (some 121) none (.slice (some ⟨gh, 0, none⟩) H.length c9) (by kernel_rfl) (by kernel_rfl) (by kernel_rfl) (fun _ _ _ h => HQ.out _ _ _ _ _ h) (fun o' wq e hS => exec_move wq e (by kernel_rfl)) HT9.out ?_
    refine takeG 6 (.move (.tmp 18)) (some 122) none (.int .i64 (k : Int)) (by kernel_rfl) (by kernel_rfl) (by kernel_rfl) (fun _ _ _ h => HQ.out _ _ _ _ _ h) (fun o' wq e hS => exec_move wq e (by kernel_rfl)) HT9.out ?_
    refine takeG 7 (.indexAddr 29 (.tmp 121) (.tmp 122)) (some 123) none (.pointer (some ⟨gh, k, none⟩)) (by kernel_rfl) (by kernel_rfl) (by kernel_rfl) (fun _ _ _ h => HQ.out _ _ _ _ _ h) (fun o' wq e hS => exec_index (u1 := .slice (some ⟨gh, 0, none⟩) H.length c9) (u2 := .int .i64 (k : Int)) wq e (by kernel_rfl) (by kernel_rfl) (Nr.index_int gh H.length c9 k hkl _)) HT9.out ?_
    refine takeG 8 (.load 3 (.tmp 123)) (some 124) none (.int .i64 (x : Int)) (by kernel_rfl) (by kernel_rfl) (by kernel_rfl) (fun _ _ _ h => HQ.out _ _ _ _ _ h) (fun o' wq e hS => exec_load (x := (.tmp 123)) e (by kernel_rfl) (load_one Try.underlying3 (by kernel_rfl) hS.1)) HT9.out ?_
    refine takeG 9 (.indexAddr 29 (.tmp 120) (.tmp 124)) (some 125) none (.pointer (some ⟨gb, x, none⟩)) (by kernel_rfl) (by kernel_rfl) (by kernel_rfl) (fun _ _ _ h => HQ.out _ _ _ _ _ h) (fun o' wq e hS => exec_index (u1 := .slice (some ⟨gb, 0, none⟩) B.length c12) (u2 := .int .i64 (x : Int)) wq e (by kernel_rfl) (by kernel_rfl) (Nr.index_int gb B.length c12 x hxB _)) HT9.out ?_
    refine takeG 10 (.load 3 (.tmp 125)) (some 126) none (.int .i64 (y : Int)) (by kernel_rfl) (by kernel_rfl) (by kernel_rfl) (fun _ _ _ h => HQ.out _ _ _ _ _ h) (fun o' wq e hS => exec_load (x := (.tmp 125)) e (by kernel_rfl) (load_one Try.underlying3 (by kernel_rfl) hS.2)) HT9.out ?_
    refine takeG 11 (.build 36 #[(0, (.tmp 119)), (2, (.tmp 126))]) (some 127) none (.agg #[.int .i64 (x : Int), .int .i64 0, .int .i64 (y : Int), .string ⟨#[]⟩]) (by kernel_rfl) (by kernel_rfl) (by kernel_rfl) (fun _ _ _ h => HQ.out _ _ _ _ _ h) (fun o' wq e hS => exec_bld2 (u0 := .int .i64 (x : Int)) (u1 := .int .i64 (y : Int)) wq e (by kernel_rfl) (by kernel_rfl) (by kernel_rfl)) HT9.out ?_
    refine loneG 12 (.alloc 36) (some 19) none (by kernel_rfl) (by kernel_rfl) (by kernel_rfl) ?_
    intro o' ho hod
    refine wp_val (exec_alloc ho (alloc_pt _)) ?_
    rw [hod]
    clear hod ho
    refine ⟨fun _ => HT8.out, ?_⟩

    refine lastStore 13 36 (.tmp 19) (.tmp 127) (.pointer (some ⟨wr.drew.heap.size, 0, none⟩)) (.agg #[.int .i64 (x : Int), .int .i64 0, .int .i64 (y : Int), .string ⟨#[]⟩]) _ (by kernel_rfl) (by kernel_rfl) (by kernel_rfl) rfl (by kernel_rfl) (by kernel_rfl) HST.out ?_
    simp only [put_some, put_none, List.setIfInBounds_toArray, List.set_cons_succ, List.set_cons_zero]
    rw [← HGP.out]
    clear HT9 HT8 HST
    have hE : Hid (Fit L) := Lib.hid (HE.out.fit (by have := HE.out.bt; omega)).1
    have HKL : Hid (Calls Try.prog 5 #[.agg #[.int .i64 L.base, .slice A L.snaps.length c, .slice A' L.dead.length c'], .agg #[.int .i64 (x : Int), .int .i64 0, .int .i64 (y : Int), .string ⟨#[]⟩]] W1 fun e w' => KillPost 51 W1 (killS L ⟨x, 0, y, ⟨#[]⟩⟩) e w') := Lib.hid (by
      obtain ⟨_, vs9, hv9⟩ := HS1.out
      exact kill_at W1 L ⟨x, 0, y, ⟨#[]⟩⟩ A A' c c' hE.out hv9.rs.1 hv9.rs.2 hv9.rd.1 hv9.rd.2)
    have q0 : W1.cell? ⟨g, 0, none⟩ = some (.int .i64 L.base) := HS1.out.1.cell 0
    have q1 : W1.cell? ⟨g, 1, none⟩ = some (.slice A L.snaps.length c) := HS1.out.1.cell 1
    have q2 : W1.cell? ⟨g, 2, none⟩ = some (.slice A' L.dead.length c') := HS1.out.1.cell 2
    have y0 : W1.cell? ⟨gp, 0, none⟩ = some (.int .i64 (x : Int)) := HP1.out.cell 0
    have y1 : W1.cell? ⟨gp, 1, none⟩ = some (.int .i64 0) := HP1.out.cell 1
    have y2 : W1.cell? ⟨gp, 2, none⟩ = some (.int .i64 (y : Int)) := HP1.out.cell 2
    have y3 : W1.cell? ⟨gp, 3, none⟩ = some (.string ⟨#[]⟩) := HP1.out.cell 3
    by_cases hlt : aheadL L L.snaps.length < (y : Int)
    · obtain ⟨M, hks, hE2, hN2⟩ : ∃ M, killS L ⟨x, 0, y, ⟨#[]⟩⟩ = (M, true, 0) ∧ Ex M b T (H.eraseIdx k) S (List.range m) B (X ++ nos [(⟨x, 0, y, ⟨#[]⟩⟩ : Pt)]) ∧ x < B.length ∧ x ∉ X := by
        obtain ⟨h1, h2, h3, h4⟩ := HE.out.kill_free HY.out.1 (by rw [HY.out.2]; exact hlt)
        rw [HY.out.2] at h1
        exact ⟨L, h1, by rw [HT.out]; exact h4, h3, h2⟩
      have HE2 := Lib.hid hE2
      have HN0 : Hid ((∀ p ∈ [(⟨x, 0, y, ⟨#[]⟩⟩ : Pt)], ∃ n : Nat, p.addr = (n : Int) ∧ n < B.length ∧ n ∉ X) ∧ (nos [(⟨x, 0, y, ⟨#[]⟩⟩ : Pt)]).Nodup) := Lib.hid ⟨fun p hp => ⟨x, by rw [List.mem_singleton.1 hp], hN2⟩, by simp [nos]⟩
      have h9 := HKL.out
      rw [hks] at h9
      have HKL2 := Lib.hid h9
      clear h9 hks hlt hE2 hN2 HKL HE
      go_wp2_with fail
      refine HKL2.out.mono ?_
      rintro e V3 ⟨v, rfl, ⟨Ak, ck, Dk, dk1, vsk, rfl, hOk⟩, b3⟩
      clear q0 q1 q2 y0 y1 y2 y3 HKL2
      have hOk0 := hOk.base_ (Nat.zero_le _)
      have z := HS1.out.1.below b3 HS1.out.1.lt
      have u0 : V3.cell? ⟨g, 0, none⟩ = some (.int .i64 L.base) := z.cell 0
      have u1 : V3.cell? ⟨g, 1, none⟩ = some (.slice A L.snaps.length c) := z.cell 1
      have u2 : V3.cell? ⟨g, 2, none⟩ = some (.slice A' L.dead.length c') := z.cell 2
      have v0 : V3.frozen? ⟨g, 0, none⟩ = false := z.frozen 0
      have v1 : V3.frozen? ⟨g, 1, none⟩ = false := z.frozen 1
      have v2 : V3.frozen? ⟨g, 2, none⟩ = false := z.frozen 2
      obtain ⟨W4, hW4⟩ : ∃ W4, W4 = ((V3.setCell ⟨g, 0, none⟩ (.int .i64 M.base)).setCell ⟨g, 1, none⟩ (.slice Ak M.snaps.length ck)).setCell ⟨g, 2, none⟩ (.slice Dk M.dead.length dk1) := ⟨_, rfl⟩
      have HX4 := Lib.hid hW4
      have HSW4 : Hid (LS W4 g M Ak ck Dk dk1) := Lib.hid (by rw [hW4]; exact ls_put z hOk0)
      have LWW4 : Hid (Below w.heap.size w W4) := Lib.hid (by rw [hW4]; exact put_below (LW1.out.trans (b3.mono LW1.out.size)) HG.out)
      have hfar : ∀ g', g' ≠ g → W4.heap[g']? = V3.heap[g']? := fun g' hg' => by rw [hW4]; exact put_far hg'
      have HMW4 := Lib.hid ((HM1.out.below b3).put z (by unfold rowT; decide) (by rw [hW4]; simp [World.setCell]) hfar)
      have HPW4 : Hid (Blk W4 gp 36 #[.int .i64 (x : Int), .int .i64 0, .int .i64 (y : Int), .string ⟨#[]⟩]) := Lib.hid ((hfar gp (Blk.ne_ (HP1.out.below b3 HP1.out.lt) z (by decide))).trans (HP1.out.below b3 HP1.out.lt))
      have HRW4 : Hid (Gr.RdG 1 csN W4 (some ⟨gh, 0, none⟩) H) := Lib.hid (HMW4.out.oH.rd_some (fun _ => rfl))
      clear HP1 HR1
      clear hW4 z hfar b3 hOk hOk0 HS1 HM1 LW1
      go_upto_region 35 with (fail)
      rw [← HX4.out]
      clear HX4
      clear u0 v0 u1 v1 u2 v2
      have zp : Blk W4 gp 36 #[.int .i64 (x : Int), .int .i64 0, .int .i64 (y : Int), .string ⟨#[]⟩] := HPW4.out
      have y0 : W4.cell? ⟨gp, 0, none⟩ = some (.int .i64 (x : Int)) := zp.cell 0
      have y1 : W4.cell? ⟨gp, 1, none⟩ = some (.int .i64 0) := zp.cell 1
      have y2 : W4.cell? ⟨gp, 2, none⟩ = some (.int .i64 (y : Int)) := zp.cell 2
      have y3 : W4.cell? ⟨gp, 3, none⟩ = some (.string ⟨#[]⟩) := zp.cell 3
      have HBZ : Hid (([] : List Pt).length * 40 + 40 ≤ 140737488355328) := Lib.hid (by simp)
      have HAL : Hid (Below W4.heap.size W4 (W4.alloc (.cells #[.int .i64 (x : Int), .int .i64 0, .int .i64 (y : Int), .string ⟨#[]⟩] 36))) := Lib.hid ((Below.refl _ _).alloc (Nat.le_refl _) _)
      go_wp2_with (at_builtin; refine wpList_appP (v := .slice none 0 0) (A := some ⟨W4.heap.size, 0, none⟩) (n := 1) (c := 1) (l := []) (base := W4.heap.size) [(⟨x, 0, y, ⟨#[]⟩⟩ : Pt)] rfl (.tmp 136) (.tmp 138) rfl rfl rfl (Gr.OwnG.nil _ _) rfl (rd_one W4 ⟨x, 0, y, ⟨#[]⟩⟩) (fun e => by cases e) (by simp) HAL.out.size ?_; intro v16 W5 o5 b5 c5; refine of_hid ?_)
      refine Lib.hid ?_
      obtain ⟨A16, c16, hv16, _, _, _, _, _⟩ := o5.shape (fun _ => rfl)
      have hv17 : v16 = .slice A16 [(⟨x, 0, y, ⟨#[]⟩⟩ : Pt)].length c16 := hv16
      clear hv16
      subst hv17
      have hb5 := HAL.out.trans b5
      have HF5 : Hid (OwnP W5 0 (.slice A16 [(⟨x, 0, y, ⟨#[]⟩⟩ : Pt)].length c16) [(⟨x, 0, y, ⟨#[]⟩⟩ : Pt)]) := Lib.hid (own_base o5 (Nat.zero_le _))
      have HM5 := Lib.hid (HMW4.out.below hb5)
      have HS5 := Lib.hid (HSW4.out.below hb5)
      have LW5 := Lib.hid (LWW4.out.trans (hb5.mono LWW4.out.size))
      have HR5 := Lib.hid (HRW4.out.below hb5)
      clear o5 b5 c5 hb5 HAL HBZ HMW4 HSW4 LWW4 HRW4 y0 y1 y2 y3 zp HPW4
      go_wp2_with fail
      refine (without_at W5 H gh H.length c9 k rfl HR5.out (by omega) hkl l9).mono ?_
      rintro e W6 ⟨v9, rfl, o6, b6⟩
      have HM6 := Lib.hid (HM5.out.setH o6 b6)
      have HS6 := Lib.hid (HS5.out.below b6)
      have LW6 := Lib.hid (LW5.out.trans (b6.mono LW5.out.size))
      have HF6 := Lib.hid (HF5.out.below b6 (Nat.le_refl _))
      clear o6 b6 HM5 HS5 LW5 HF5 HR5
      go_wp2_with fail
      refine HKK.out _ _ _ _ _ _ _ _ _ _ _ _ _ _ _ _ _ _ _ _ _ _ _ _ _ _ _ _ _ _ _ _ _ _ _ _ _ _ _ _ _ _ _ _ _ _ _ _ _ _ _ _ _ _ _ _ _ _ _ _ _ _ _ _ _ _ _ _ _ _ _ _ _ _ _ _ _ _ _ _ _ _ _ _ _ _ _ _ _ _ _ _ _ _ _ _ _ _ _ _ _ _ _ _ _ _ _ _ _ _ _ _ _ _ _ _ _ ?_
      exact ⟨M, Ak, ck, Dk, dk1, _, S, B, X, _, A16, c16, rfl, rfl, HF6, HS6, HM6, HE2, HN0, LW6⟩
    · obtain ⟨M, hks, hE2⟩ : ∃ M, killS L ⟨x, 0, y, ⟨#[]⟩⟩ = (M, false, 0) ∧ Ex M b T (H.eraseIdx k) S (List.range m) B (X ++ nos []) := by
        obtain ⟨h1, h2⟩ := HE.out.kill_dead HY.out.1 (by rw [HY.out.2]; exact hlt)
        rw [HY.out.2] at h1 h2
        exact ⟨_, h1, by rw [HT.out, show nos [] = [] from rfl, List.append_nil]; exact h2⟩
      have HE2 := Lib.hid hE2
      have HN0 : Hid ((∀ p ∈ ([] : List Pt), ∃ n : Nat, p.addr = (n : Int) ∧ n < (B).length ∧ n ∉ X) ∧ (nos []).Nodup) := Lib.hid ⟨(fun p hp => by cases hp), by simp [nos]⟩
      have h9 := HKL.out
      rw [hks] at h9
      have HKL2 := Lib.hid h9
      clear h9 hks hlt hE2 HKL HE
      go_wp2_with fail
      refine HKL2.out.mono ?_
      rintro e V3 ⟨v, rfl, ⟨Ak, ck, Dk, dk1, vsk, rfl, hOk⟩, b3⟩
      clear q0 q1 q2 y0 y1 y2 y3 HKL2
      have hOk0 := hOk.base_ (Nat.zero_le _)
      have z := HS1.out.1.below b3 HS1.out.1.lt
      have u0 : V3.cell? ⟨g, 0, none⟩ = some (.int .i64 L.base) := z.cell 0
      have u1 : V3.cell? ⟨g, 1, none⟩ = some (.slice A L.snaps.length c) := z.cell 1
      have u2 : V3.cell? ⟨g, 2, none⟩ = some (.slice A' L.dead.length c') := z.cell 2
      have v0 : V3.frozen? ⟨g, 0, none⟩ = false := z.frozen 0
      have v1 : V3.frozen? ⟨g, 1, none⟩ = false := z.frozen 1
      have v2 : V3.frozen? ⟨g, 2, none⟩ = false := z.frozen 2
      obtain ⟨W4, hW4⟩ : ∃ W4, W4 = ((V3.setCell ⟨g, 0, none⟩ (.int .i64 M.base)).setCell ⟨g, 1, none⟩ (.slice Ak M.snaps.length ck)).setCell ⟨g, 2, none⟩ (.slice Dk M.dead.length dk1) := ⟨_, rfl⟩
      have HX4 := Lib.hid hW4
      have HSW4 : Hid (LS W4 g M Ak ck Dk dk1) := Lib.hid (by rw [hW4]; exact ls_put z hOk0)
      have LWW4 : Hid (Below w.heap.size w W4) := Lib.hid (by rw [hW4]; exact put_below (LW1.out.trans (b3.mono LW1.out.size)) HG.out)
      have hfar : ∀ g', g' ≠ g → W4.heap[g']? = V3.heap[g']? := fun g' hg' => by rw [hW4]; exact put_far hg'
      have HMW4 := Lib.hid ((HM1.out.below b3).put z (by unfold rowT; decide) (by rw [hW4]; simp [World.setCell]) hfar)
      have HPW4 : Hid (Blk W4 gp 36 #[.int .i64 (x : Int), .int .i64 0, .int .i64 (y : Int), .string ⟨#[]⟩]) := Lib.hid ((hfar gp (Blk.ne_ (HP1.out.below b3 HP1.out.lt) z (by decide))).trans (HP1.out.below b3 HP1.out.lt))
      have HRW4 : Hid (Gr.RdG 1 csN W4 (some ⟨gh, 0, none⟩) H) := Lib.hid (HMW4.out.oH.rd_some (fun _ => rfl))
      clear HP1 HR1
      clear hW4 z hfar b3 hOk hOk0 HS1 HM1 LW1
      go_upto_region 35 with (fail)
      rw [← HX4.out]
      clear HX4
      clear u0 v0 u1 v1 u2 v2
      go_wp2_with fail
      refine (without_at W4 H gh H.length c9 k rfl HRW4.out (by omega) hkl l9).mono ?_
      rintro e W6 ⟨v9, rfl, o6, b6⟩
      have HM6 := Lib.hid (HMW4.out.setH o6 b6)
      have HS6 := Lib.hid (HSW4.out.below b6)
      have LW6 := Lib.hid (LWW4.out.trans (b6.mono LWW4.out.size))
      have HF0 : Hid (OwnP W6 0 (.slice none ([] : List Pt).length 0) []) := Lib.hid (Gr.OwnG.nil _ _)
      clear o6 b6 HMW4 HSW4 LWW4 HRW4
      go_wp2_with fail
      refine HKK.out _ _ _ _ _ _ _ _ _ _ _ _ _ _ _ _ _ _ _ _ _ _ _ _ _ _ _ _ _ _ _ _ _ _ _ _ _ _ _ _ _ _ _ _ _ _ _ _ _ _ _ _ _ _ _ _ _ _ _ _ _ _ _ _ _ _ _ _ _ _ _ _ _ _ _ _ _ _ _ _ _ _ _ _ _ _ _ _ _ _ _ _ _ _ _ _ _ _ _ _ _ _ _ _ _ _ _ _ _ _ _ _ _ _ _ _ _ ?_
      exact ⟨M, Ak, ck, Dk, dk1, _, S, B, X, [], none, 0, rfl, rfl, HF0, HS6, HM6, HE2, HN0, LW6⟩
end Dd
end Go.Proofs.Ytefgofoocabkkaa
