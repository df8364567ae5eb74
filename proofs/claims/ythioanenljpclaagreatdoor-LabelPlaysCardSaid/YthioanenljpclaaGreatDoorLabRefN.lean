/-
  The document's 'DocNewest' by a contract on the document's rack. Conditions: those that the theorem types.
-/
import Derived.Test.YthioanenljpclaaGreatDoorLabRefYM
import Derived.Test.YthioanenljpclaaGreatDoorRackHasM
import Derived.BigQuiet
namespace Go.Proofs.YthioanenljpclaaGreatDoor
open Go Go.RowKit refRack
set_option maxRecDepth 100000
set_option linter.unusedVariables false
namespace Lab
theorem wslot_t {t : RS} {d a : Nat} : wslot t d a = ⟨-1, K.zeroP⟩ ∧ found t d a = none ∨ found t d a = some (wslot t d a) := by
  unfold wslot
  cases found t d a with
  | none => exact .inl ⟨rfl, rfl⟩
  | some u => exact .inr rfl
theorem step_same {t : RS} {d a : Nat} {b : U} (hb : 0 ≤ b.t) (hy : t.deny (d : Int) (a : Int) = 0) : stepU b (lookU t d a) = stepU b (wslot t d a) := by
  have hl : lookU t d a = (found t d a).getD zeroU := by unfold lookU; rw [if_pos hy]
  rw [hl]
  rcases wslot_t (t := t) (d := d) (a := a) with ⟨h1, h2⟩ | h2
  · rw [h1, h2]
    have e1 : stepU b ((none : Option U).getD zeroU) = b := if_neg (show ¬ b.t < 0 by omega)
    have e2 : stepU b ⟨-1, K.zeroP⟩ = b := if_neg (show ¬ b.t < -1 by omega)
    rw [e1, e2]
  · rw [h2]; rfl
theorem step_pos {b u : U} (hb : 0 ≤ b.t) : 0 ≤ (stepU b u).t := by
  unfold stepU
  split
  · omega
  · exact hb
theorem nrow_step {t : RS} {d k : Nat} {b : U} (hk : k < 8) (h8 : 8 < t.ns) (hy : t.deny (d : Int) 0 = 0) (hb : 0 ≤ b.t) : NRow t d (8 - k) k b = NRow t d (8 - (k + 1)) (k + 1) (stepU b (wslot t d k)) := by
  have hd : t.deny (d : Int) (k : Int) = 0 := (deny_ind (d := d) (a := k) (by omega) (by omega)).trans hy
  have hstep : NRow t d (8 - k) k b = if lookE t d k = 16 then none else NRow t d (8 - (k + 1)) (k + 1) (stepU b (lookU t d k)) := by
    rw [show 8 - k = (8 - (k + 1)) + 1 by omega]
    rfl
  have hE : lookE t d k ≠ 16 := by
    unfold lookE
    rw [if_pos hd]
    split <;> omega
  rw [hstep, if_neg hE, step_same hb hd]
theorem nrow_off {t : RS} {d : Nat} {b : U} (hy : t.deny (d : Int) 0 = 16) : NRow t d 8 0 b = none := by
  have hE : lookE t d 0 = 16 := by
    unfold lookE
    rw [if_neg (by rw [show ((0 : Nat) : Int) = 0 from rfl, hy]; omega)]
    exact hy
  show (if lookE t d 0 = 16 then none else _) = _
  rw [if_pos hE]
theorem nrow_skip {t : RS} {d : Nat} (h8 : 8 < t.ns) (hy : t.deny (d : Int) 0 ≠ 0) (hy2 : t.deny (d : Int) 0 ≠ 16) : ∀ (f k : Nat) (b : U), f + k ≤ 8 → 0 ≤ b.t → NRow t d f k b = some b
  | 0, _, _, _, _ => rfl
  | f + 1, k, b, hf, hb => by
    have hd : t.deny (d : Int) (k : Int) = t.deny (d : Int) 0 := deny_ind (d := d) (a := k) (by omega) (by omega)
    have hE : lookE t d k = t.deny (d : Int) 0 := by unfold lookE; rw [if_neg (by rw [hd]; exact hy), hd]
    have hU : lookU t d k = zeroU := by unfold lookU; rw [if_neg (by rw [hd]; exact hy)]
    show (if lookE t d k = 16 then none else NRow t d f (k + 1) (stepU b (lookU t d k))) = some b
    rw [hE, if_neg hy2, hU]
    have hs : stepU b zeroU = b := by unfold stepU; rw [if_neg (show ¬ b.t < (zeroU : U).t by show ¬ b.t < 0; omega)]
    rw [hs]
    exact nrow_skip h8 hy hy2 f (k + 1) b (by omega) hb
theorem nall_step {t : RS} {nd d : Nat} {b : U} (hd : d < nd) : NAll t (nd - d) d b = (NRow t d 8 0 b).bind (NAll t (nd - (d + 1)) (d + 1)) := by
  rw [show nd - d = (nd - (d + 1)) + 1 by omega]
  rfl
abbrev zR : Array Value := #[.int .i64 0, .int .i64 0, .int .i64 0, .int .i64 0, .string ⟨#[]⟩]
theorem index_uR (g n c i : Nat) (h : i < n) (w : World) : (Instr.indexAt 107 (.slice (some ⟨g, 0, none⟩) n c) (.int .i64 (i : Int))).run Tryz.prog w = .ok (.pointer (some ⟨g, i * 5, none⟩)) w := by
  have h1 := Gr.index_gen (k := 5) Tryz.underlying107 (by kernel_rfl) g 0 n c i h w
  rw [Nat.zero_add] at h1
  exact h1
theorem cells_uR {w : World} {base g n c : Nat} {l : List U} (h : OwnU w base (.slice (some ⟨g, 0, none⟩) n c) l) {k : Nat} {x : U} (hx : l[k]? = some x) : w.cell? ⟨g, k * 5, none⟩ = some (.int .i64 x.t) ∧ w.cell? ⟨g, k * 5 + 1, none⟩ = some (.int .i64 x.p.a) ∧ w.cell? ⟨g, k * 5 + 2, none⟩ = some (.int .i64 x.p.z) ∧ w.cell? ⟨g, k * 5 + 3, none⟩ = some (.int .i64 x.p.b) ∧ w.cell? ⟨g, k * 5 + 4, none⟩ = some (.string x.p.s) := by
  obtain ⟨A, c', e, hr, _⟩ := h.shape (fun _ => rfl)
  injection e with e1 e2 e3
  obtain ⟨b, o, e4, _, h5⟩ := hr k x hx
  rw [← e1] at e4
  injection e4 with e4
  injection e4 with e4 e5
  subst e4 e5
  have h0 := h5 0 _ rfl
  have h1 := h5 1 _ rfl
  have h2 := h5 2 _ rfl
  have h3 := h5 3 _ rfl
  have h4 := h5 4 _ rfl
  rw [Nat.zero_add] at h0 h1 h2 h3 h4
  exact ⟨h0, h1, h2, h3, h4⟩
theorem ownU_shape {w : World} {base : Nat} {v : Value} {l : List U} (h : OwnU w base v l) (hl : 1 ≤ l.length) : ∃ g c, v = .slice (some ⟨g, 0, none⟩) l.length c ∧ base ≤ g := by
  rcases h.2 with ⟨_, e⟩ | ⟨g, cap, cur, e, h2, _⟩
  · omega
  · exact ⟨g, cap, e, h2⟩
theorem ownU_put {W : World} {base gl n c bb : Nat} {l : List U} (h : OwnU W base (.slice (some ⟨gl, 0, none⟩) n c) l) (hne : gl ≠ bb) (u : U) : OwnU (set5 W bb (.int .i64 u.t) (.int .i64 u.p.a) (.int .i64 u.p.z) (.int .i64 u.p.b) (.string u.p.s)) base (.slice (some ⟨gl, 0, none⟩) n c) l :=
  h.keep fun k hk => by
    have hkl := (h.lt hk).1
    cases hk
    exact (grown_set5 W bb _ _ _ _ _).block gl hkl (fun e => by injection e with e; exact hne e)
/-- ahead of a drive -/
structure NM (w0 W : World) (q bb : Nat) (b : U) : Prop where
  q_ : Blk W q 43 zR
  b_ : Blk W bb 43 (uA b)
  bel : Below w0.heap.size w0 W
  lo : w0.heap.size ≤ q ∧ w0.heap.size ≤ bb ∧ q ≠ bb
theorem NM.below {w0 W W' : World} {q bb : Nat} {b : U} (h : NM w0 W q bb b) (hb : Below W.heap.size W W') : NM w0 W' q bb b := ⟨h.q_.below hb h.q_.lt, h.b_.below hb h.b_.lt, h.bel.trans (hb.mono h.bel.size), h.lo⟩
theorem NM.put {w0 W : World} {q bb : Nat} {b : U} (h : NM w0 W q bb b) (u : U) : NM w0 (set5 W bb (.int .i64 u.t) (.int .i64 u.p.a) (.int .i64 u.p.z) (.int .i64 u.p.b) (.string u.p.s)) q bb u := by
  refine ⟨?_, set5_blk h.b_ _ _ _ _ _, set5_below h.bel h.lo.2.1 _ _ _ _ _, h.lo⟩
  have hg := grown_set5 W bb (.int .i64 u.t) (.int .i64 u.p.a) (.int .i64 u.p.z) (.int .i64 u.p.b) (.string u.p.s)
  exact (hg.block q h.q_.lt (fun e => by injection e with e; exact h.lo.2.2 e)).trans h.q_
section
variable {B : Nat}
set_option maxHeartbeats 6400000 in
theorem newest_k8 (w : World) (g : Nat) (t : RS) (h : TAt B w g t) (h1 : 0 < t.nd) (h16 : t.nd ≤ 16) (hX : ∀ d a j, t.gone d = false → j < 128 → t.holds d a j < 256) :
    Calls Tryz.prog 26 #[.pointer (some ⟨g, 0, none⟩)] w fun e w' => e = .returned (.tuple #[.agg (uA (newU t).1), .int .i64 (newU t).2]) ∧ Below w.heap.size w w' := by
  obtain ⟨q, hq⟩ : ∃ q, q = w.heap.size := ⟨_, rfl⟩
  obtain ⟨wa, hwa⟩ : ∃ wa, wa = w.alloc (.cells #[.int .i64 0, .int .i64 0, .int .i64 0, .int .i64 0, .string ⟨#[]⟩] 43) := ⟨_, rfl⟩
  have hba : Below w.heap.size w wa := by rw [hwa]; exact (Below.refl _ _).alloc (Nat.le_refl _) _
  have XQ : Hid (Blk wa q 43 zR) := Lib.hid (by rw [hwa, hq]; exact Blk.new _ _ _)
  have HR := Lib.hid (right_k wa g t (h.below hba) h1)
  have HBA := Lib.hid hba
  have HT := Lib.hid h
  have HX := Lib.hid hX
  have HQ := Lib.hid hq
  have HWA := Lib.hid hwa
  clear hba h hX hq hwa
  by_cases h8 : 8 < t.ns
  rotate_left
  · have HN : Hid (newU t = (zeroU, 1)) := Lib.hid (by unfold newU; rw [if_neg h8])
    rw [HN.out]
    rw [decide_eq_false h8] at HR
    have XF := uberR_facts XQ.out
    obtain ⟨⟨d0, d1, d2, d3, d4⟩, z0, z1, z2, z3, z4⟩ := XF
    clear h8 h1
    go_enter Tryz.func26, Tryz.ntmps26
    go_wp2_with fail
    rw [← HWA.out, ← HQ.out]
    refine HR.out.mono ?_
    rintro e w' ⟨rfl, hw⟩
    rw [hw]
    clear hw
    go_wp2_with fail
    refine bodyPost_ret (results_cell2 rfl rfl (set5_loadR XQ.out _ _ _ _ _) rfl) rfl ?_
    exact ⟨rfl, set5_below HBA.out (by rw [HQ.out]; exact Nat.le_refl _) _ _ _ _ _⟩
  rw [decide_eq_true h8] at HR
  have HN : Hid (newU t = pickN (NAll t t.nd 0 zeroU)) := Lib.hid (by unfold newU; rw [if_pos h8])
  have H8 := Lib.hid h8
  obtain ⟨nd, hnd⟩ : ∃ nd, nd = t.nd := ⟨_, rfl⟩
  have HND := Lib.hid hnd
  have hnd0 : 0 < nd := by rw [hnd]; exact h1
  have hnd16 : nd ≤ 16 := by rw [hnd]; exact h16
  obtain ⟨fin, hfin⟩ : ∃ fin, fin = NAll t nd 0 zeroU := ⟨_, rfl⟩
  have HFIN := Lib.hid hfin
  have HHX : Hid (∃ vL vG vW H C, TK B w g t vL vG vW H C) := HT
  obtain ⟨vL, vG, vW, Hh, Cc, hk⟩ := HHX.out
  obtain ⟨lh, lc, hvl, _⟩ := hk.head h1
  subst hvl
  have HC0 : Hid (∀ W, Below w.heap.size w W → W.cell? ⟨g, 0, none⟩ = some (.slice (some ⟨lh, 0, none⟩) nd lc)) := Lib.hid fun W hW => by rw [hnd]; exact (hk.below hW).c0
  clear hk h8 h1 h16 hnd hfin
  have hnew := Blk.new wa 43 zR
  obtain ⟨⟨d0, d1, d2, d3, d4⟩, z0, z1, z2, z3, z4⟩ := uberR_facts hnew
  clear hnew
  go_enter Tryz.func26, Tryz.ntmps26
  go_wp2_with fail
  rw [← HWA.out, ← HQ.out]
  refine HR.out.mono ?_
  rintro e w' ⟨rfl, hw⟩
  rw [hw]
  clear hw HR
  go_upto_region 4 with (fail)
  obtain ⟨bb, hbb⟩ : ∃ bb, bb = wa.heap.size := ⟨_, rfl⟩
  obtain ⟨w1, hw1⟩ : ∃ w1, w1 = wa.alloc (.cells #[.int .i64 0, .int .i64 0, .int .i64 0, .int .i64 0, .string ⟨#[]⟩] 43) := ⟨_, rfl⟩
  have b1 : Below wa.heap.size wa w1 := by rw [hw1]; exact (Below.refl _ _).alloc (Nat.le_refl _) _
  have N1 : Hid (NM w w1 q bb zeroU) := Lib.hid ⟨XQ.out.below b1 XQ.out.lt, by rw [hw1, hbb]; exact Blk.new _ _ _, HBA.out.trans (b1.mono HBA.out.size), by rw [HQ.out]; exact Nat.le_refl _, by rw [hbb]; exact HBA.out.size, by
    have := XQ.out.lt
    omega⟩
  rw [← hw1, ← hbb]
  clear d0 d1 d2 d3 d4 z0 z1 z2 z3 z4 b1 hw1 hbb
  go_wp2_with fail
  go_loopw [5] (fun dv wr => ∃ (d : Nat) (b : U), d ≤ nd ∧ dv = .int .i64 (d : Int) ∧ 0 ≤ b.t ∧ Hid (NAll t (nd - d) d b = fin) ∧ Hid (NM w wr q bb b)) (fun dv _ => nd - (intOf dv).toNat)
  case atStart => exact ⟨0, zeroU, Nat.zero_le _, rfl, Int.le_refl _, Lib.hid HFIN.out.symm, N1⟩
  case round =>
    obtain ⟨d, b, hd, rfl, hb0, W3, N3⟩ := hrel
    rename World => w3
    clear N1
    have c0 := HC0.out w3 N3.out.bel
    by_cases hdn : d < nd
    · have t1 : (d : Int) < (nd : Int) := by omega
      rw [nall_step hdn] at W3
      have HTW : Hid (TAt B w3 g t) := Lib.hid (HT.out.below N3.out.bel)
      by_cases hy : t.deny (d : Int) 0 = 0
      · have HW := Lib.hid (whole_yes w3 g t d HTW.out H8.out hy (fun a j hj => HX.out d a j (by
          obtain ⟨d', a', e1, e2, h4, h5, h6⟩ := why_some (deny_some hy).1
          have : d = d' := by omega
          rw [this]; exact h6) hj))
        have HY := Lib.hid hy
        clear hy
        go_wp2_with fail
        refine HW.out.mono ?_
        rintro e w5 ⟨⟨v, rfl, ho⟩, b5⟩
        obtain ⟨gl, cl, hv, hgl⟩ := ownU_shape ho (by rw [List.length_map, List.length_range]; omega)
        rw [List.length_map, List.length_range] at hv
        subst hv
        have O5 := Lib.hid ho
        have N5 := Lib.hid (N3.out.below b5)
        have HNE : Hid (gl ≠ bb) := Lib.hid (by have := N3.out.b_.lt; omega)
        clear ho b5 HW hgl c0 HTW
        go_wp2_with fail
        go_loopw [8] (fun iv wz => ∃ (k : Nat) (b' : U), k ≤ 8 ∧ iv = .int .i64 (k : Int) ∧ 0 ≤ b'.t ∧ Hid (NRow t d 8 0 b = NRow t d (8 - k) k b') ∧ Hid (NM w wz q bb b') ∧ Hid (OwnU wz w3.heap.size (.slice (some ⟨gl, 0, none⟩) 8 cl) ((List.range 8).map (wslot t d)))) (fun iv _ => 8 - (intOf iv).toNat)
        case atStart => exact ⟨0, b, by omega, rfl, hb0, Lib.hid rfl, N5, O5⟩
        case round =>
          obtain ⟨k, b', hk, rfl, hb1, W6, N6, O6⟩ := hrel
          rename World => w6
          clear N5 O5
          by_cases hk8 : k < 8
          · have t2 : (k : Int) < 8 := by omega
            rw [nrow_step hk8 H8.out HY.out hb1] at W6
            have hpos := step_pos (u := wslot t d k) hb1
            obtain ⟨x0, x1, x2, x3, x4⟩ := cells_uR O6.out (k := k) (x := wslot t d k) (by rw [List.getElem?_map, List.getElem?_range hk8]; rfl)
            generalize wslot t d k = u at *
            obtain ⟨ut, ⟨ua, uz, ub, us⟩⟩ := u
            obtain ⟨bt, ⟨ba, bz, bq, bs⟩⟩ := b'
            have hix := index_uR gl 8 cl k hk8 w6
            obtain ⟨⟨f0, f1, f2, f3, f4⟩, i0, i1, i2, i3, i4⟩ := uberR_facts N6.out.b_
            by_cases hgt : bt < ut
            · have hst : stepU ⟨bt, ⟨ba, bz, bq, bs⟩⟩ ⟨ut, ⟨ua, uz, ub, us⟩⟩ = ⟨ut, ⟨ua, uz, ub, us⟩⟩ := if_pos hgt
              rw [hst] at W6 hpos
              clear hst
              have W6' := Lib.hid W6.out
              go_upto_region 13 with (fail)
              go_quiet (fail)
              go_wp2_with fail
              go_roundw
              case rel =>
                exact ⟨k + 1, ⟨ut, ⟨ua, uz, ub, us⟩⟩, by omega, by go_num, hpos, W6', Lib.hid ((N6.out.below (below_drewN (Below.refl _ _) _)).put ⟨ut, ⟨ua, uz, ub, us⟩⟩), Lib.hid (ownU_put (O6.out.below (below_drewN (Below.refl w6.heap.size w6) _) (Nat.le_refl _)) HNE.out ⟨ut, ⟨ua, uz, ub, us⟩⟩)⟩
              case measure => simp [intOf]; omega
            · have hst : stepU ⟨bt, ⟨ba, bz, bq, bs⟩⟩ ⟨ut, ⟨ua, uz, ub, us⟩⟩ = ⟨bt, ⟨ba, bz, bq, bs⟩⟩ := if_neg hgt
              rw [hst] at W6 hpos
              clear hst
              go_upto_region 13 with (fail)
              go_quiet (fail)
              go_wp2_with fail
              go_roundw
              case rel => exact ⟨k + 1, ⟨bt, ⟨ba, bz, bq, bs⟩⟩, by omega, by go_num, hpos, W6, Lib.hid (N6.out.below (below_drewN (Below.refl _ _) _)), Lib.hid (O6.out.below (below_drewN (Below.refl w6.heap.size w6) _) (Nat.le_refl _))⟩
              case measure => simp [intOf]; omega
          · obtain rfl : k = 8 := by omega
            have t2 : ¬ (((8 : Nat) : Int) < 8) := by omega
            have W7 : Hid (NAll t (nd - (d + 1)) (d + 1) b' = fin) := Lib.hid (by
              have h := W3.out
              rw [W6.out] at h
              exact h)
            clear W6
            go_wp2_with fail
            go_roundw
            case rel => exact ⟨d + 1, b', by omega, by go_num, hb1, W7, N6⟩
            case measure => simp [intOf]; omega
      · have HW := Lib.hid (whole_no w3 g t d HTW.out hy)
        obtain ⟨y, hyy⟩ : ∃ y, y = t.deny (d : Int) 0 := ⟨_, rfl⟩
        rw [← hyy] at hy HW
        by_cases hy16 : y = 16
        · rw [nrow_off (by rw [← hyy]; exact hy16)] at W3
          subst hy16
          have HA : Hid (newU t = (zeroU, 16)) := Lib.hid (by rw [HN.out, ← HND.out, ← HFIN.out, ← W3.out]; rfl)
          obtain ⟨⟨f0, f1, f2, f3, f4⟩, i0, i1, i2, i3, i4⟩ := uberR_facts N3.out.q_
          clear hyy hy W3
          go_wp2_with fail
          refine HW.out.mono ?_
          rintro e w5 ⟨rfl, hw⟩
          rw [hw]
          clear hw HW
          go_wp2_with fail
          refine bodyPost_ret (results_cell2 rfl rfl (set5_loadR N3.out.q_ _ _ _ _ _) rfl) rfl ?_
          exact ⟨by rw [HA.out]; rfl, set5_below N3.out.bel N3.out.lo.1 _ _ _ _ _⟩
        · rw [nrow_skip H8.out (by rw [← hyy]; exact hy) (by rw [← hyy]; exact hy16) 8 0 b (by omega) hb0] at W3
          have W7 : Hid (NAll t (nd - (d + 1)) (d + 1) b = fin) := Lib.hid W3.out
          clear hyy W3
          go_wp2_with fail
          refine HW.out.mono ?_
          rintro e w5 ⟨rfl, hw⟩
          rw [hw]
          clear hw HW
          go_wp2_with fail
          go_loopw [8] (fun iv wz => iv = .int .i64 0 ∧ wz = w3) (fun _ _ => 0)
          case atStart => exact ⟨rfl, rfl⟩
          case round =>
            obtain ⟨rfl, hw⟩ := hrel
            rw [hw]
            clear hw
            go_wp2_with fail
            go_roundw
            case rel => exact ⟨d + 1, b, by omega, by go_num, hb0, W7, N3⟩
            case measure => simp [intOf]; omega
    · obtain rfl : d = nd := by omega
      have t1 : ¬ ((d : Int) < (d : Int)) := by omega
      have HB2 : Hid (fin = some b) := Lib.hid (by rw [← W3.out, Nat.sub_self]; rfl)
      have HA : Hid (newU t = if b.t = 0 then (zeroU, 7) else (b, 0)) := Lib.hid (by rw [HN.out, ← HND.out, ← HFIN.out, HB2.out]; rfl)
      obtain ⟨⟨f0, f1, f2, f3, f4⟩, i0, i1, i2, i3, i4⟩ := uberR_facts N3.out.q_
      obtain ⟨⟨k0, k1, k2, k3, k4⟩, _, _, _, _, _⟩ := uberR_facts N3.out.b_
      obtain ⟨bt, ⟨ba, bz, bq, bs⟩⟩ := b
      by_cases hbt : bt = 0
      · subst hbt
        clear W3
        go_wp2_with fail
        refine bodyPost_ret (results_cell2 rfl rfl (set5_loadR N3.out.q_ _ _ _ _ _) rfl) rfl ?_
        exact ⟨by rw [HA.out]; rfl, set5_below N3.out.bel N3.out.lo.1 _ _ _ _ _⟩
      · clear W3
        go_wp2_with fail
        refine bodyPost_ret (results_cell2 rfl rfl (set5_loadR N3.out.q_ _ _ _ _ _) rfl) rfl ?_
        exact ⟨by rw [HA.out, if_neg hbt]; rfl, set5_below N3.out.bel N3.out.lo.1 _ _ _ _ _⟩
end
end Lab
end Go.Proofs.YthioanenljpclaaGreatDoor
