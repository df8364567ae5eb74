/-
  What was told free is marked. The conditions: what stands ahead of it.
-/
import Derived.Test.YtefgofoocabkkaaDeadExK0M
namespace Go.Proofs.Ytefgofoocabkkaa
open Go Go.RowKit
set_option maxRecDepth 100000
set_option linter.unusedVariables false
namespace Dd
open Nr (OwnN csN)
set_option maxHeartbeats 25600000 in
theorem told (w wr : World) (b T m g : Nat) (v9 v10 v11 v12 v13 : Value) (L : Ln) (A : Option Addr) (c : Nat) (A' : Option Addr) (c' : Nat) (H : List Nat) (S : List (List Nat)) (B X : List Nat) (F : List Pt) (AT : Option Addr) (cT : Nat)
    {x0 x1 x2 x3 x4 x5 x6 x7 x9 x10 x11 x12 x14 x15 x17 x18 x19 x20 x21 x23 x24 x25 x26 x27 x28 x29 x30 x31 x32 x33 x34 x35 x36 x37 x38 x39 x40 x41 x42 x43 x44 x45 x46 x47 x48 x49 x50 x51 x52 x53 x54 x55 x56 x57 x58 x59 x60 x61 x62 x63 x64 x65 x66 x67 x68 x69 x70 x71 x72 x73 x74 x75 x76 x77 x78 x79 x80 x81 x82 x83 x84 x85 x86 x87 x88 x89 x90 x91 x92 x93 x94 x95 x96 x97 x98 x99 x100 x101 x102 x103 x104 x105 x106 x107 x108 x109 x110 x111 x112 x113 x114 x115 x116 x117 x118 x119 x120 x121 x122 x123 x124 x125 x126 x127 x128 x129 x130 x131 x132 x133 x134 x135 x136 x137 x138 x139 x140 x141 x142 x143 x144 x145 x146 x147 x148 x149 x150 x151 x152 x153 x154 x155 x156 x157 x158 x159 x160 x161 x162 x163 x164 x165 x166 x167 x168 x169 x170 x171 x172 x173 x174 x175 x176 x177 x178 x179 x180 x181 x182 x183 x184 x185 x186 x187 x188 x189 x190 x191 x192 x193 x194 x195 x196 x197 x198 x199 x200 x201 x202 x203 x204 x205 x206 x207 x208 x209 x210 x211 x212 x213 x214 x215 x216 x217 x218 x219 x220 x221 x222 x223 x224 x225 x226 x227 x228 x229 x230 x231 x232 x233 x234 x235 x236 x237 x238 x239 x240 x241 x242 x243 x244 x245 x246 x247 x248 x249 x250 x251 x252 x253 x254 x255 x256 x257 x258 x259 x260 x261 x262 x263 x264 x265 x266 x267 : Value} {C : Code} (hC : Try.f3.body.bind (fb 5) = some C) {Q : Exit → Act → World → Prop}
    (hT : T ≤ 190) (HS : Hid (LS wr g L A c A' c')) (HM : Hid (Mm wr w.heap.size v9 v11 v10 v12 v13 H (List.range m) S B (frL B.length (X)))) (HE : Hid (Ex L b T H S (List.range m) B (X ++ nos F))) (HF : Hid (OwnP wr 0 (.slice AT F.length cT) F)) (HNF : Hid ((∀ p ∈ F, ∃ n : Nat, p.addr = (n : Int) ∧ n < B.length ∧ n ∉ X) ∧ (nos F).Nodup)) (LW : Hid (Below w.heap.size w wr))
    (hK : ∀ (z6 z22 z23 z205 z206 z207 z208 z209 z210 z211 z212 z213 z214 z215 z216 z217 z218 z219 z220 z221 z222 z223 z224 z225 z226 z227 z228 z229 z230 z231 z232 : Value) (wx : World), (Hid (LS wx g L A c A' c') ∧ Hid (Mm wx w.heap.size v9 v11 v10 v12 v13 H (List.range m) S B (frL B.length (X ++ nos F))) ∧ Hid (Below w.heap.size w wx)) → Q .normal { tmps := #[x0, x1, x2, x3, x4, x5, z6, x7, .pointer (some ⟨g, 0, none⟩), x9, x10, x11, x12, v13, x14, x15, .slice AT F.length cT, x17, x18, x19, x20, x21, z22, z23, x24, x25, x26, x27, x28, x29, x30, x31, x32, x33, x34, x35, x36, x37, x38, x39, x40, x41, x42, x43, x44, x45, x46, x47, x48, x49, x50, x51, x52, x53, x54, x55, x56, x57, x58, x59, x60, x61, x62, x63, x64, x65, x66, x67, x68, x69, x70, x71, x72, x73, x74, x75, x76, x77, x78, x79, x80, x81, x82, x83, x84, x85, x86, x87, x88, x89, x90, x91, x92, x93, x94, x95, x96, x97, x98, x99, x100, x101, x102, x103, x104, x105, x106, x107, x108, x109, x110, x111, x112, x113, x114, x115, x116, x117, x118, x119, x120, x121, x122, x123, x124, x125, x126, x127, x128, x129, x130, x131, x132, x133, x134, x135, x136, x137, x138, x139, x140, x141, x142, x143, x144, x145, x146, x147, x148, x149, x150, x151, x152, x153, x154, x155, x156, x157, x158, x159, x160, x161, x162, x163, x164, x165, x166, x167, x168, x169, x170, x171, x172, x173, x174, x175, x176, x177, x178, x179, x180, x181, x182, x183, x184, x185, x186, x187, x188, x189, x190, x191, x192, x193, x194, x195, x196, x197, x198, x199, x200, x201, x202, x203, x204, z205, z206, z207, z208, z209, z210, z211, z212, z213, z214, z215, z216, z217, z218, z219, z220, z221, z222, z223, z224, z225, z226, z227, z228, z229, z230, z231, z232, x233, x234, x235, x236, x237, x238, x239, x240, x241, x242, x243, x244, x245, x246, x247, x248, x249, x250, x251, x252, x253, x254, x255, x256, x257, x258, x259, x260, x261, x262, x263, x264, x265, x266, x267], defers := [] } wx) :
    Code.wp Try.prog C Q { tmps := #[x0, x1, x2, x3, x4, x5, x6, x7, .pointer (some ⟨g, 0, none⟩), x9, x10, x11, x12, v13, x14, x15, .slice AT F.length cT, x17, x18, x19, x20, x21, .int .i64 0, x23, x24, x25, x26, x27, x28, x29, x30, x31, x32, x33, x34, x35, x36, x37, x38, x39, x40, x41, x42, x43, x44, x45, x46, x47, x48, x49, x50, x51, x52, x53, x54, x55, x56, x57, x58, x59, x60, x61, x62, x63, x64, x65, x66, x67, x68, x69, x70, x71, x72, x73, x74, x75, x76, x77, x78, x79, x80, x81, x82, x83, x84, x85, x86, x87, x88, x89, x90, x91, x92, x93, x94, x95, x96, x97, x98, x99, x100, x101, x102, x103, x104, x105, x106, x107, x108, x109, x110, x111, x112, x113, x114, x115, x116, x117, x118, x119, x120, x121, x122, x123, x124, x125, x126, x127, x128, x129, x130, x131, x132, x133, x134, x135, x136, x137, x138, x139, x140, x141, x142, x143, x144, x145, x146, x147, x148, x149, x150, x151, x152, x153, x154, x155, x156, x157, x158, x159, x160, x161, x162, x163, x164, x165, x166, x167, x168, x169, x170, x171, x172, x173, x174, x175, x176, x177, x178, x179, x180, x181, x182, x183, x184, x185, x186, x187, x188, x189, x190, x191, x192, x193, x194, x195, x196, x197, x198, x199, x200, x201, x202, x203, x204, x205, x206, x207, x208, x209, x210, x211, x212, x213, x214, x215, x216, x217, x218, x219, x220, x221, x222, x223, x224, x225, x226, x227, x228, x229, x230, x231, x232, x233, x234, x235, x236, x237, x238, x239, x240, x241, x242, x243, x244, x245, x246, x247, x248, x249, x250, x251, x252, x253, x254, x255, x256, x257, x258, x259, x260, x261, x262, x263, x264, x265, x266, x267], defers := [] } wr := by
  have HKK := Lib.hid hK
  clear hK
  obtain ⟨A13, c13, hv13, _, _, m13, _, _⟩ := HM.out.oF.shape (fun _ => rfl)
  rw [frL_len] at hv13
  subst hv13
  have hBl : B.length ≤ 200 := by have := HE.out.bl; omega
  obtain ⟨A14, c14, hv14, _, l14, m14, _, _⟩ := HF.out.shape (fun _ => rfl)
  have hFl : F.length ≤ 9223372036854775807 := by unfold maxLen at m14; omega
  obtain ⟨nf, hnf⟩ : ∃ nf, nf = F.length := ⟨_, rfl⟩
  have HNL := Lib.hid hnf
  rw [← hnf] at HF hFl ⊢
  clear hv14 l14 m14 hnf m13
  simp [Try.f3, fb] at hC
  subst hC
  have HM0 : Hid (Mm wr w.heap.size v9 v11 v10 v12 (.slice A13 B.length c13) H (List.range m) S B (frL B.length (X ++ (nos F).take 0))) := Lib.hid (by rw [List.take_zero, List.append_nil]; exact HM.out)
  go_wp2_with fail
  go_loopw [22] (fun y wr => ∃ r : Nat, r ≤ nf ∧ y = .int .i64 (r : Int) ∧ Hid (LS wr g L A c A' c') ∧ Hid (Mm wr w.heap.size v9 v11 v10 v12 (.slice A13 B.length c13) H (List.range m) S B (frL B.length (X ++ (nos F).take r))) ∧ Hid (OwnP wr 0 (.slice AT nf cT) F) ∧ Hid (Below w.heap.size w wr)) (fun y _ => nf - (intOf y).toNat)
  case atStart => exact ⟨0, by omega, rfl, HS, HM0, HF, LW⟩
  case round =>
    clear HS HM0 HM HF LW
    obtain ⟨r, hr, rfl, HS, HM, HF, LW⟩ := hrel
    by_cases hlt : r < nf
    · have i1 : (r : Int) < (nf : Int) := by omega
      obtain ⟨p, hp⟩ : ∃ p, F[r]? = some p := ⟨_, List.getElem?_eq_getElem (by rw [← HNL.out]; exact hlt)⟩
      obtain ⟨n, hn, hnB, hnX⟩ := HNF.out.1 p (List.mem_of_getElem? hp)
      obtain ⟨g4, hA4, hg4, _, k4⟩ := own_addr HF.out hp
      rw [hn] at k4
      subst hA4
      have hno : (nos F)[r]? = some n := by
        unfold nos
        rw [List.getElem?_map, hp]
        show some p.addr.toNat = some n
        rw [hn]
        rfl
      have hnt : n ∉ X ++ (nos F).take r := fun hm => by
        rcases List.mem_append.1 hm with hm | hm
        · exact hnX hm
        · exact nd_take HNF.out.2 hno hm
      obtain ⟨gf, cf, cuf, hvf, hbf, hgf, _, _, hbk, hcz, hrf⟩ := own_in (fun _ => rfl) HM.out.oF (show n < (frL B.length (X ++ (nos F).take r)).length by rw [frL_len]; exact hnB)
      injection hvf with e1 e2 e3
      clear e2
      subst e1
      subst e3
      have kf : wr.cell? ⟨gf, n, none⟩ = some (.bool false) := by
        obtain ⟨b', o', e1, _, hc⟩ := hrf n _ (frL_at hnB)
        injection e1 with e1
        injection e1 with e1 e2
        subst e1 e2
        have := hc 0 _ rfl
        rw [Nat.mul_one, Nat.zero_add, Nat.add_zero, decide_eq_false hnt] at this
        exact this
      have kz : wr.frozen? ⟨gf, n, none⟩ = false := hbk.frozen n
      obtain ⟨ho, hrc⟩ := mark_k (frL_len B.length (X ++ (nos F).take r)).symm HM.out.oF hnB
      rw [frL_mark, List.append_assoc] at ho
      have HM2 : Hid (Mm (wr.setCell ⟨gf, n, none⟩ (.bool true)) w.heap.size v9 v11 v10 v12 (.slice (some ⟨gf, 0, none⟩) B.length c13) H (List.range m) S B (frL B.length (X ++ (nos F).take (r + 1)))) := Lib.hid (by
        rw [List.take_add_one, hno]
        exact HM.out.pushF ho hrc)
      have HS2 := Lib.hid (HS.out.rowC HM.out.oF (by unfold rowT; simp) hrc)
      have HF2 := Lib.hid (OwnP.rowC HF.out HM.out.oF (by unfold rowT; simp) hrc)
      have LW2 := Lib.hid (LW.out.setCell (p := ⟨gf, n, none⟩) hbf (.bool true))
      have j1 : ¬ ((n : Int) < 0) := by omega
      have j2 : (n : Int) < (B.length : Int) := by omega
      clear hp hn hno hnt hnX hg4 hbf hgf hbk hcz hrf ho hrc HS HM HF LW
      go_wp2_with fail
      go_roundw
      case rel => exact ⟨r + 1, by omega, by go_num, HS2, HM2, HF2, LW2⟩
      case measure => simp [intOf]; omega
    · have i1 : ¬ ((r : Int) < (nf : Int)) := by omega
      have HM2 : Hid (Mm wr w.heap.size v9 v11 v10 v12 (.slice A13 B.length c13) H (List.range m) S B (frL B.length (X ++ nos F))) := Lib.hid (by
        have h := HM.out
        rw [List.take_of_length_le (by unfold nos; rw [List.length_map, ← HNL.out]; omega)] at h
        exact h)
      clear HM
      go_wp2_with fail
      have h9 := HNL.out
      subst h9
      refine HKK.out _ _ _ _ _ _ _ _ _ _ _ _ _ _ _ _ _ _ _ _ _ _ _ _ _ _ _ _ _ _ _ _ ⟨HS, HM2, LW⟩
end Dd
end Go.Proofs.Ytefgofoocabkkaa
