/-
  'hoardlaw11.DeadExact': the walk. The conditions: the list can be read.
-/
import Derived.Test.YtefgofoocabkkaaDeadExKs
import Derived.Test.YtefgofoocabkkaaDeadExL0
import Derived.Test.YtefgofoocabkkaaDeadExL1
import Derived.Test.YtefgofoocabkkaaDeadExL2
import Derived.Test.YtefgofoocabkkaaGenSizedM
import Derived.Deep.CutBlock
namespace Go.Proofs.Ytefgofoocabkkaa
open Go Go.RowKit
set_option maxRecDepth 100000
set_option linter.unusedVariables false
namespace Dd
open Nr (OwnN csN)
set_option maxHeartbeats 51200000 in
theorem exact_walk (w : World) (a0 a1 : Int) (A2 : Option Addr) (l2 : List (Int × Int)) (cap2 : Nat) (h2 : Gr.RdG 2 Gr.cs2 w A2 l2) (k2 : l2.length ≤ cap2) (m2 : cap2 ≤ maxLen) :
    Calls Try.prog 3 #[.int .i64 a0, .int .i64 a1, .slice A2 l2.length cap2] w fun e w' => e = .returned (.bool true) ∧ Below w.heap.size w w' := by
  unfold maxLen at m2
  have H2 := Lib.hid h2
  obtain ⟨len2, hlen2⟩ : ∃ len2, len2 = l2.length := ⟨_, rfl⟩
  have HLN := Lib.hid hlen2
  rw [← hlen2] at k2 ⊢
  clear h2 hlen2
  obtain ⟨b, hb, hb100⟩ := umod32 a0 100 (by omega) (by omega)
  obtain ⟨o5, ho5, ho55⟩ := umod32 a1 5 (by omega) (by omega)
  have hq0 : wrap64 ((IntKind.u64.wrap a0).tmod 100) = (b : Int) := hb
  have HO5 : Hid (wrap64 ((IntKind.u64.wrap a1).tmod 5) = (o5 : Int)) := Lib.hid ho5
  clear hb ho5
  go_enter Try.func3, Try.ntmps3
  go_wp2_with fail
  refine (known_at _).mono ?_
  rintro e U0 ⟨rfl, b0⟩
  go_upto_region 4 with (fail)
  rw [hq0]
  clear hq0
  obtain ⟨U, hU⟩ : ∃ U, U = U0.alloc (.cells #[.int .i64 (b : Int), .slice none 0 0, .slice none 0 0] 28) := ⟨_, rfl⟩
  obtain ⟨g, hg⟩ : ∃ g, g = U0.heap.size := ⟨_, rfl⟩
  have HU := Lib.hid (⟨hU, hg⟩ : _ ∧ _)
  have HS0 : Hid (LS U g ⟨(b : Int), [], []⟩ none 0 none 0) := Lib.hid ⟨by rw [hU, hg]; exact Blk.new _ _ _, [], Gr.OwnG.nil _ _, ⟨rfl, fun i s h => by simp at h⟩, Gr.OwnG.nil _ _, (fun i j x y h1 h2 => by simp at h2), fun i x h => by simp at h⟩
  have HG : Hid (w.heap.size ≤ g) := Lib.hid (by rw [hg]; exact b0.size)
  have L0 : Hid (Below w.heap.size w U) := Lib.hid (by rw [hU]; exact b0.alloc b0.size _)
  have HM0 : Hid (M1 U w.heap.size (.slice none 0 0) (.slice none 0 0) (.slice none 0 0) (.slice none 0 0) (List.range 0) (List.range 0) (brs b 0) (frL 0 [])) := Lib.hid (M1.start U w.heap.size L0.out.size)
  clear hU hg b0
  go_upto_region 6 with (fail)
  rw [← HU.out.1, ← HU.out.2]
  clear HU
  go_upto_block 0 with (fail)
  refine first (w := w) (wr := U) (b := b) (o5 := o5) (g := g) (hC := by kernel_rfl) (hb100 := hb100) (ho55 := ho55) (HO5 := HO5) (HS0 := HS0) (HM0 := HM0) (L0 := L0) (hK := ?_)
  clear HS0 HM0 L0
  rintro z9 z11 z12 z13 z14 z37 z38 z39 z40 z41 z42 z43 z44 z45 z46 z47 z48 z49 z50 z51 z52 z53 z54 z55 z56 z57 z58 z59 z60 z61 z62 z63 z64 z65 z66 wx ⟨m, hm4, HS, HM, HE, LW⟩
  simp only [Exit.then]
  go_wp2_with fail
  go_loopw [7, 9, 10, 12, 13, 15] (fun v7 v9 v10 v12 v13 y wr => ∃ (i t : Nat) (L : Ln) (A : Option Addr) (c : Nat) (A' : Option Addr) (c' : Nat) (H : List Nat) (S : List (List Nat)) (B X : List Nat), i ≤ 80 ∧ i ≤ len2 ∧ t ≤ 100 + 1 + i ∧ v7 = .int .i64 (t : Int) ∧ y = .int .i64 (i : Int) ∧ Hid (LS wr g L A c A' c') ∧ Hid (Mm wr w.heap.size v9 z11 v10 v12 v13 H (List.range m) S B (frL B.length X)) ∧ Hid (Ex L b t H S (List.range m) B X) ∧ Hid (Below w.heap.size w wr)) (fun _ _ _ _ _ y _ => 80 - (intOf y).toNat)
  case atStart => exact ⟨0, b + 1, ⟨(b : Int), [], []⟩, none, 0, none, 0, List.range m, [], brs b m, [], by omega, by omega, by omega, by go_num, rfl, HS, (by rw [brs_len]; exact HM), HE, LW⟩
  case round =>
    clear HS HM HE LW
    obtain ⟨i, t, L, A, c, A', c', H, S, B, X, hi, hi2, ht, rfl, rfl, HS, HM, HE, LW⟩ := hrel
    by_cases hlt : i < len2 ∧ i < 80
    · obtain ⟨hlt1, hlt2⟩ := hlt
      have i1 : (i : Int) < (len2 : Int) := by omega
      have i2 : (i : Int) < 80 := by omega
      obtain ⟨pp, hpp⟩ : ∃ pp, l2[i]? = some pp := ⟨_, List.getElem?_eq_getElem (by have := HLN.out; omega)⟩
      obtain ⟨kd, nn⟩ := pp
      obtain ⟨g1, o1, hA1, hg1, hc1⟩ := (H2.out.below LW.out) i _ hpp
      have k1 : wr.cell? ⟨g1, o1 + i * 2, none⟩ = some (.int .i64 kd) := hc1 0 _ rfl
      have k3 : wr.cell? ⟨g1, o1 + i * 2 + 1, none⟩ = some (.int .i64 nn) := hc1 1 _ rfl
      have KN := Lib.hid k3
      subst hA1
      obtain ⟨T, hT⟩ : ∃ T, T = t + 1 := ⟨_, rfl⟩
      have HT := Lib.hid hT
      have hTi : (t : Int) + 1 = (T : Int) := by omega
      have hT3 : T ≤ 182 := by omega
      have hTt : T ≤ 100 + 1 + (i + 1) := by omega
      clear hpp hc1 k3 hg1 hT
      go_upto_block 4 with (fail)
      clear k1
      refine sw (w := w) (wr := wr) (b := b) (t := t) (T := T) (m := m) (g := g) (g1 := g1) (o1 := o1) (i := i) (nn := nn) (kd := kd) (L := L) (A := A) (c := c) (A' := A') (c' := c') (H := H) (S := S) (B := B) (X := X) (hC := by kernel_rfl) (hQ := fun c a d v w h => by cases d <;> exact h) (hi2 := hlt1) (hlc := k2) (hi80 := hlt2) (ht := by omega) (hT := HT.out) (HG := HG) (kn := KN.out) (HS := HS) (HM := HM) (HE := HE) (LW := LW) (hK := ?_) (hcont := ?_)
      · clear HS HM HE LW KN hTi L A c A' c' H S B X
        rintro z9 z10 z12 z13 z16 z17 z18 z19 z20 z21 z84 z85 z86 z87 z88 z89 z90 z91 z92 z93 z94 z95 z96 z97 z98 z99 z100 z101 z102 z103 z104 z105 z106 z107 z108 z109 z110 z111 z112 z113 z114 z115 z116 z117 z118 z119 z120 z121 z122 z123 z124 z125 z126 z127 z128 z129 z130 z131 z132 z133 z134 z135 z136 z137 z138 z139 z140 z141 z142 z143 z144 z145 z146 z147 z148 z149 z150 z151 z152 z153 z154 z155 z156 z157 z158 z159 z160 z161 z162 z163 z164 z165 z166 z167 z168 z169 z170 z171 z172 z173 z174 z175 z176 z177 z178 z179 z180 z181 z182 z183 z184 z185 z186 z187 z188 z189 wx ⟨L, A, c, A', c', H, S, B, X, F, AT, cT, rfl, rfl, HF, HS, HM, HE, HNF, LW⟩
        obtain ⟨A10, c10, hv10, _, _, m10, _, _⟩ := (show ∃ A c, z10 = .slice A S.length c ∧ True ∧ True ∧ c ≤ maxLen ∧ True ∧ True by
          obtain ⟨vs, oS1, oS2, _⟩ := HM.out.oS
          obtain ⟨A, c, h1, _, h3, h4, _, _⟩ := oS1.shape (fun _ => rfl)
          rw [oS2] at h1
          exact ⟨A, c, h1, trivial, trivial, h4, trivial, trivial⟩)
        subst hv10
        obtain ⟨A13, c13, hv13, _, _, _, _, _⟩ := HM.out.oF.shape (fun _ => rfl)
        rw [frL_len] at hv13
        subst hv13
        have hSl : S.length ≤ 200 := by have := HE.out.sl; omega
        have hBl : B.length ≤ 200 := by have := HE.out.bl; omega
        have HCK : Hid (Calls Try.prog 9 #[.agg #[.int .i64 L.base, .slice A S.length c, .slice A' L.dead.length c']] wx fun e w' => e = .returned (.int .i64 0) ∧ Below wx.heap.size wx w') := Lib.hid (by
          obtain ⟨_, vs9, hv9⟩ := HS.out
          have h := check_at wx L A A' c c' (HE.out.fit (by omega)).1 hv9.rs.1 hv9.rd.1
          rw [HE.out.R] at h
          rw [HE.out.ls]
          exact h)
        have z := HS.out.1
        rw [← HE.out.ls] at z
        have q0 : wx.cell? ⟨g, 0, none⟩ = some (.int .i64 L.base) := z.cell 0
        have q1 : wx.cell? ⟨g, 1, none⟩ = some (.slice A S.length c) := z.cell 1
        have q2 : wx.cell? ⟨g, 2, none⟩ = some (.slice A' L.dead.length c') := z.cell 2
        clear m10 z
        simp only [Exit.then]
        go_wp2_with fail
        refine HCK.out.mono ?_
        rintro e w' ⟨rfl, hb'⟩
        have HS1 := Lib.hid (HS.out.below hb')
        have HM1 := Lib.hid (HM.out.below hb')
        have HF1 := Lib.hid (HF.out.below hb' (Nat.le_refl _))
        have LW1 := Lib.hid (LW.out.trans (hb'.mono LW.out.size))
        have z := HS1.out.1
        rw [← HE.out.ls] at z
        clear q0 q1 q2 HCK HS HM HF LW hb'
        have q1 : w'.cell? ⟨g, 1, none⟩ = some (.slice A S.length c) := z.cell 1
        clear z
        go_upto_block 5 with (fail)
        clear q1
        refine told (w := w) (wr := w') (b := b) (T := T) (m := m) (g := g) (L := L) (A := A) (c := c) (A' := A') (c' := c') (H := H) (S := S) (B := B) (X := X) (F := F) (AT := AT) (cT := cT) (hC := by kernel_rfl) (hT := by omega) (HS := HS1) (HM := HM1) (HE := HE) (HF := HF1) (HNF := HNF) (LW := LW1) (hK := ?_)
        rintro z6 z22 z23 z205 z206 z207 z208 z209 z210 z211 z212 z213 z214 z215 z216 z217 z218 z219 z220 z221 z222 z223 z224 z225 z226 z227 z228 z229 z230 z231 z232 w2 ⟨HS2, HM2, LW2⟩
        clear HS1 HM1 HF1 LW1 HNF
        simp only [Exit.then]
        go_upto_block 7 with (fail)
        refine need (w := w) (wr := w2) (b := b) (T := T) (m := m) (L := L) (H := H) (S := S) (B := B) (X := X ++ nos F) (hC := by kernel_rfl) (hT := by omega) (HM := HM2) (HE := HE) (hK := ?_)
        rintro z6 z24 z25 z26 z233 z234 z235 z236 z237 z238 z239 z240 z241 z242 z243 z244 z245 z246 z247 z248 z249 z250 z251 z252 z253 z254 z255 z256 z257 z258 z259 z260 z261 z262 z263 z264 z265 z266 z267 w3 hw3
        have hw3' := hw3.out.symm
        clear hw3
        subst hw3'
        simp only [Exit.then]
        go_wp2_with fail
        go_roundw
        case rel => exact ⟨i + 1, T, L, A, c, A', c', H, S, B, X ++ nos F, by omega, by omega, by omega, by go_num, by go_num, HS2, HM2, HE, LW2⟩
        case measure => simp [intOf]; omega
      · clear HS HM HE LW KN hTi L A c A' c' H S B X
        rintro z9 z10 z12 z13 z16 z17 z18 z19 z20 z21 z84 z85 z86 z87 z88 z89 z90 z91 z92 z93 z94 z95 z96 z97 z98 z99 z100 z101 z102 z103 z104 z105 z106 z107 z108 z109 z110 z111 z112 z113 z114 z115 z116 z117 z118 z119 z120 z121 z122 z123 z124 z125 z126 z127 z128 z129 z130 z131 z132 z133 z134 z135 z136 z137 z138 z139 z140 z141 z142 z143 z144 z145 z146 z147 z148 z149 z150 z151 z152 z153 z154 z155 z156 z157 z158 z159 z160 z161 z162 z163 z164 z165 z166 z167 z168 z169 z170 z171 z172 z173 z174 z175 z176 z177 z178 z179 z180 z181 z182 z183 z184 z185 z186 z187 z188 z189 ⟨L, A, c, A', c', H, S, B, X, F, AT, cT, _, hF0, HF, HS, HM, HE, HNF, LW⟩
        have hFn : F = [] := by
          injection hF0 with _ h _
          exact List.length_eq_zero_iff.1 h.symm
        subst hFn
        have HE2 : Hid (Ex L b T H S (List.range m) B X) := Lib.hid (by
          have h := HE.out
          rw [show nos [] = [] from rfl, List.append_nil] at h
          exact h)
        clear HE hF0 HF HNF
        simp only [Exit.then, Exit.inBlock]
        go_wp2_with fail
        go_roundw
        case rel => exact ⟨i + 1, T, L, A, c, A', c', H, S, B, X, by omega, by omega, by omega, by go_num, by go_num, HS, HM, HE2, LW⟩
        case measure => simp [intOf]; omega
    · have hsplit2 : (¬ (i : Int) < (len2 : Int)) ∨ ((i : Int) < (len2 : Int) ∧ ¬ (i : Int) < 80) := by omega
      clear hlt
      rcases hsplit2 with hs | ⟨hs, hs2⟩
      all_goals
        go_wp2_with fail
        go_ret
        exact ⟨rfl, LW.out⟩
end Dd
namespace deadExact
theorem walk (a0 a1 : Int) (a2 : Option Addr) (l2 : List (Int × Int)) (cap2 : Nat) (W : World) (z0 : (Lit.int .i64 a0).wf = true) (z1 : (Lit.int .i64 a1).wf = true) (hy2 : Gr.RdG 2 Gr.cs2 W a2 l2) (hg2 : ∀ y ∈ l2, Gr.Z64' y.1 ∧ Gr.Z64' y.2) (hl2 : l2.length ≤ cap2) (hm2 : cap2 ≤ maxLen) (hn2 : a2 = none → cap2 = 0) :
    Calls Try.prog 3 #[.int .i64 a0, .int .i64 a1, .slice a2 l2.length cap2] W fun e w' => e = .returned (.bool true) ∧ Below W.heap.size W w' :=
  Dd.exact_walk W a0 a1 a2 l2 cap2 hy2 hl2 hm2
end deadExact
end Go.Proofs.Ytefgofoocabkkaa
