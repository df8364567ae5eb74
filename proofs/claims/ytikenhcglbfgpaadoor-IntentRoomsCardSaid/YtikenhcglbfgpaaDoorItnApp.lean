/-
  'none', 'Room', 'Base', 'Append' of a log by contracts. Conditions: the rack is one and calm, one of its drives is well, the log lies on it, the sums' table is laid.
-/
import Derived.Test.YtikenhcglbfgpaaDoorItnCutM
import Derived.BigQuiet
namespace Go.Proofs.YtikenhcglbfgpaaDoor
open Go Go.RowKit refRack
set_option maxRecDepth 100000
set_option linter.unusedVariables false
namespace Itn
open Lab (wall cntW wall_succ cntW_succ wall_like why_of)
/-- whatever is no part of a rack, but for one block, is as it was; below B all is -/
structure KL (l B : Nat) (w w' : World) : Prop where
  below : Below B w w'
  kept : ∀ (k : Nat) (o : Obj), w.heap[k]? = some o → rackObj o = false → k ≠ l → w'.heap[k]? = some o
section
variable {l B : Nat} {a w w' : World}
theorem KL.of_keep (h : Keep B w w') : KL l B w w' := ⟨h.below, fun k o h1 h2 _ => h.kept k o h1 h2⟩
theorem KL.trans (h : KL l B a w) (k : KL l B w w') : KL l B a w' := ⟨h.below.trans k.below, fun i o h1 h2 h3 => k.kept i o (h.kept i o h1 h2 h3) h2 h3⟩
theorem KL.block (h : KL l B a w) {g : Nat} {t : TypeId} {cs : Array Value} (hb : Blk a g t cs) (ht : (t == 49 || t == 70) = false) (hg : g ≠ l) : Blk w g t cs := h.kept g _ hb ht hg
theorem KL.drew (h : KL l B a w) : KL l B a w.drew := ⟨h.below.drew, h.kept⟩
theorem KL.setLog (h : KL l B a w) (hB : B ≤ l) (i : Nat) (u : Value) : KL l B a (w.setCell ⟨l, i, none⟩ u) :=
  ⟨h.below.trans ⟨rfl, rfl, rfl, by simp [World.setCell], fun k hk => Below.heap_setCell w ⟨l, i, none⟩ u k (by show k ≠ l; omega)⟩, fun k o h1 h2 h3 => (Below.heap_setCell w ⟨l, i, none⟩ u k h3).trans (h.kept k o h1 h2 h3)⟩
end
/-- the pieces from number k on, each to all drives -/
def putS (s : RS) (q0 b : Nat) : Nat → List Pc → RS
  | _, [] => s
  | k, p :: ps => putS (wall s (q0 + k) (lst (pcL (b : Int) (k : Int) p)) s.nd) q0 b (k + 1) ps
theorem putS_snoc (q0 b : Nat) : ∀ (l : List Pc) (s : RS) (k : Nat) (p : Pc), putS s q0 b k (l ++ [p]) = wall (putS s q0 b k l) (q0 + (k + l.length)) (lst (pcL (b : Int) ((k + l.length : Nat) : Int) p)) (putS s q0 b k l).nd
  | [], s, k, p => rfl
  | x :: l, s, k, p => by
    show putS _ q0 b (k + 1) (l ++ [p]) = _
    rw [putS_snoc q0 b l _ (k + 1) p]
    rw [show k + 1 + l.length = k + (x :: l).length by rw [List.length_cons]; omega]
    rfl
structure Same (s t : RS) : Prop where
  nd : t.nd = s.nd
  ns : t.ns = s.ns
  gone : t.gone = s.gone
  off : t.off = s.off
  armed : t.armed = s.armed
  last : t.last = s.last
theorem putS_like (q0 b : Nat) : ∀ (l : List Pc) (s : RS) (k : Nat), Lab.Like s (putS s q0 b k l) ∧ (putS s q0 b k l).cost ≤ s.cost + s.nd * l.length
  | [], s, k => ⟨⟨rfl, rfl, rfl, rfl, rfl, rfl⟩, by show s.cost ≤ _; omega⟩
  | p :: l, s, k => by
    obtain ⟨h1, h2⟩ := wall_like s (q0 + k) (lst (pcL (b : Int) (k : Int) p)) s.nd
    obtain ⟨h3, h4⟩ := putS_like q0 b l (wall s (q0 + k) (lst (pcL (b : Int) (k : Int) p)) s.nd) (k + 1)
    refine ⟨⟨h3.nd.trans h1.nd, h3.ns.trans h1.ns, h3.gone.trans h1.gone, h3.off.trans h1.off, h3.armed.trans h1.armed, h3.last.trans h1.last⟩, ?_⟩
    rw [h1.nd] at h4
    show (putS _ q0 b (k + 1) l).cost ≤ _
    rw [List.length_cons, Nat.mul_succ]
    omega
theorem cntW_like {s t : RS} (h : Lab.Like s t) : ∀ k, cntW t k = cntW s k
  | 0 => rfl
  | k + 1 => by rw [cntW_succ, cntW_succ, h.gone, cntW_like h k]
section
variable {B : Nat}
theorem none_at (w : World) (r l first count base used : Nat) (hx : Blk w l 53 (logA r first count base used)) :
    Calls Tryd.prog 22 #[.pointer (some ⟨l, 0, none⟩)] w fun e w' => e = .returned (.bool false) ∧ w' = w := by
  have c0 : w.cell? ⟨l, 0, none⟩ = some (.pointer (some ⟨r, 0, none⟩)) := hx.cell 0
  go_enter Tryd.func22, Tryd.ntmps22
  go_wp2_with fail
  go_ret
  exact ⟨rfl, rfl⟩
theorem room_at (w : World) (r l first count base used : Nat) (hx : Blk w l 53 (logA r first count base used)) (hu : used ≤ count) (hc : count ≤ 1000000) :
    Calls Tryd.prog 11 #[.pointer (some ⟨l, 0, none⟩)] w fun e w' => e = .returned (.int .i64 ((count - used : Nat) : Int)) ∧ ∃ m, w' = w.drewN m := by
  have HX := Lib.hid hx
  have c2 : w.cell? ⟨l, 2, none⟩ = some (.int .i64 (count : Int)) := hx.cell 2
  have c4 : w.cell? ⟨l, 4, none⟩ = some (.int .i64 (used : Int)) := hx.cell 4
  have HU := Lib.hid hu
  have HC := Lib.hid hc
  clear hx
  go_enter Tryd.func11, Tryd.ntmps11
  go_wp2_with fail
  refine (none_at w r l first count base used HX.out).mono ?_
  rintro e w' ⟨rfl, rfl⟩
  go_wp2_with fail
  go_quiet (fail)
  go_wp2_with fail
  go_ret
  exact ⟨by go_num, _, rfl⟩
theorem base_at (w : World) (r l first count base used : Nat) (hx : Blk w l 53 (logA r first count base used)) :
    Calls Tryd.prog 14 #[.pointer (some ⟨l, 0, none⟩)] w fun e w' => e = .returned (.int .i64 (base : Int)) ∧ w' = w := by
  have HX := Lib.hid hx
  have c3 : w.cell? ⟨l, 3, none⟩ = some (.int .i64 (base : Int)) := hx.cell 3
  clear hx
  go_enter Tryd.func14, Tryd.ntmps14
  go_wp2_with fail
  refine (none_at w r l first count base used HX.out).mono ?_
  rintro e w' ⟨rfl, rfl⟩
  go_wp2_with fail
  go_ret
  exact ⟨rfl, rfl⟩
/-- a row that is not empty, as a block -/
theorem OwnC.blk {w : World} {base : Nat} {v : Value} {l : List Pc} (h : OwnC w base v l) (hne : 0 < l.length) : ∃ g c cur, v = .slice (some ⟨g, 0, none⟩) l.length c ∧ base ≤ g ∧ Blk w g 59 cur := by
  obtain ⟨A, c, h1, h2, _, _, _, h3⟩ := Gr.OwnG.shape h (fun _ => rfl)
  obtain ⟨g, o, hA, _, _⟩ := h2 0 l[0] (List.getElem?_eq_getElem hne)
  subst hA
  have hg := (h3 g o none rfl).1
  have hv : ∃ c', v = .slice (some ⟨g, 0, none⟩) l.length c' := by
    rcases h.2 with ⟨e, _⟩ | ⟨g', cap, cur, e, _⟩
    · rw [e] at h1; cases h1
    · rw [e] at h1
      injection h1 with e1 e2 e3
      injection e1 with e1
      injection e1 with e1 e4
      subst e1
      exact ⟨cap, e⟩
  obtain ⟨c', hv⟩ := hv
  obtain ⟨cur, hb⟩ := Gr.OwnG.blk_of h (g := g) (by rw [hv]; rfl)
  exact ⟨g, c', cur, hv, hg, hb⟩
theorem OwnC.look {w : World} {base : Nat} {l : List Pc} {g n c : Nat} {cur : Array Value} (h : OwnC w base (.slice (some ⟨g, 0, none⟩) n c) l) (hb : Blk w g 59 cur) {i : Nat} {p : Pc} (hi : l[i]? = some p) : cur[i * 2]? = some (.bool p.l) ∧ cur[i * 2 + 1]? = some (.string p.s) := by
  obtain ⟨A, c', h1, h2, _⟩ := Gr.OwnG.shape h (fun _ => rfl)
  injection h1 with e1 e2 e3
  obtain ⟨g', o, hA, _, kk⟩ := h2 i p hi
  rw [← e1] at hA
  injection hA with hA
  injection hA with e4 e5
  subst e4 e5
  have k0 := kk 0 (.bool p.l) rfl
  have k1 := kk 1 (.string p.s) rfl
  rw [hb.cell] at k0 k1
  simp only [Nat.zero_add, Nat.add_zero] at k0 k1
  exact ⟨k0, k1⟩
def appE (count used n : Nat) : Int := if count < n then 14 else 5
theorem app_no (w : World) (r l first count base used : Nat) (t : ByteArray) (hx : Blk w l 53 (logA r first count base used)) (hu : used ≤ count) (hc : count ≤ 1000000) (hts : t.size ≤ 1000000) (hn : count < used + needN t.size) :
    Calls Tryd.prog 10 #[.pointer (some ⟨l, 0, none⟩), .string t] w fun e w' => e = .returned (.int .i64 (appE count used (needN t.size))) ∧ ∃ m, w' = w.drewN m := by
  obtain ⟨n, hnn⟩ : ∃ n, n = needN t.size := ⟨_, rfl⟩
  rw [← hnn] at hn ⊢
  have HNN := Lib.hid hnn
  have HX := Lib.hid hx
  have HU := Lib.hid hu
  have HC := Lib.hid hc
  have HTS := Lib.hid hts
  have c2 : w.cell? ⟨l, 2, none⟩ = some (.int .i64 (count : Int)) := hx.cell 2
  clear hx hnn
  by_cases hb : count < n
  · have i1 : (count : Int) < (n : Int) := by omega
    go_enter Tryd.func10, Tryd.ntmps10
    go_wp2_with fail
    refine (need_at t w HTS.out).mono ?_
    rintro e w' ⟨rfl, rfl⟩
    rw [← HNN.out]
    go_wp2_with fail
    refine (none_at _ r l first count base used HX.out).mono ?_
    rintro e w' ⟨rfl, rfl⟩
    go_wp2_with fail
    go_ret
    exact ⟨by unfold appE; rw [if_pos hb]; rfl, 0, by simp [World.drewN]⟩
  · have i1 : ¬ (count : Int) < (n : Int) := by omega
    have i2 : ((count - used : Nat) : Int) < (n : Int) := by omega
    go_enter Tryd.func10, Tryd.ntmps10
    go_wp2_with fail
    refine (need_at t w HTS.out).mono ?_
    rintro e w' ⟨rfl, rfl⟩
    rw [← HNN.out]
    go_wp2_with fail
    refine (none_at _ r l first count base used HX.out).mono ?_
    rintro e w' ⟨rfl, rfl⟩
    go_wp2_with fail
    refine (room_at _ r l first count base used HX.out HU.out HC.out).mono ?_
    rintro e w' ⟨rfl, m, rfl⟩
    go_wp2_with fail
    go_ret
    exact ⟨by unfold appE; rw [if_neg hb]; rfl, m, rfl⟩
theorem wrY_on {s : RS} {k : Nat} (h : cntW s k ≠ 0) : wrY s k = 0 := if_neg h
set_option maxHeartbeats 6400000 in
theorem app_ok (w : World) (r l : Nat) (s : RS) (first count base used : Nat) (t : ByteArray) (h : RackAt B w r s) (hx : Blk w l 53 (logA r first count base used)) (hl : Laid w) (hB : 0 < B) (hBl : B ≤ l) (hc : s.calm) (hcw : cntW s s.nd ≠ 0) (hq : first + count ≤ s.ns) (hn : used + needN t.size ≤ count) (hts : t.size ≤ 1000000) (hbs : base ≤ 1000000) (hfk : first + count ≤ 1000000) (hcost : s.cost + s.nd * needN t.size ≤ 1000000) :
    Calls Tryd.prog 10 #[.pointer (some ⟨l, 0, none⟩), .string t] w fun e w' => e = .returned (.int .i64 0) ∧ RackAt B w' r (putS s first base used (cutL t)) ∧ Blk w' l 53 (logA r first count base (used + needN t.size)) ∧ KL l B w w' := by
  have hle := h.le
  obtain ⟨n, hnn⟩ : ∃ n, n = needN t.size := ⟨_, rfl⟩
  rw [← hnn] at hn hcost ⊢
  have HNN := Lib.hid hnn
  have hn1 : 1 ≤ n := by rw [hnn]; unfold needN; omega
  have HLEN : Hid ((cutL t).length = n) := Lib.hid (by rw [hnn]; exact cutL_len t)
  have HR0 := Lib.hid h
  have HX0 := Lib.hid hx
  have HLD := Lib.hid hl
  have HCM := Lib.hid hc
  have HCW := Lib.hid hcw
  have HQ := Lib.hid hq
  have HU : Hid (used ≤ count) := Lib.hid (by omega)
  have HC : Hid (count ≤ 1000000) := Lib.hid (by omega)
  have HN := Lib.hid hn
  have HTS := Lib.hid hts
  have HBS := Lib.hid hbs
  have HFK := Lib.hid hfk
  have HCO := Lib.hid hcost
  have HBL := Lib.hid hBl
  have hun : used + n ≤ 1000000 := by omega
  have c2 : w.cell? ⟨l, 2, none⟩ = some (.int .i64 (count : Int)) := hx.cell 2
  have i1 : ¬ (count : Int) < (n : Int) := by omega
  have i2 : ¬ ((count - used : Nat) : Int) < (n : Int) := by omega
  clear h hx hl hc hcw hq hn hts hbs hfk hcost hnn hBl
  go_enter Tryd.func10, Tryd.ntmps10
  go_wp2_with fail
  refine (need_at t w HTS.out).mono ?_
  rintro e w' ⟨rfl, hw⟩
  replace hw := hw.symm
  subst hw
  rw [← HNN.out]
  go_wp2_with fail
  refine (none_at _ r l first count base used HX0.out).mono ?_
  rintro e w' ⟨rfl, hw⟩
  replace hw := hw.symm
  subst hw
  go_wp2_with fail
  refine (room_at _ r l first count base used HX0.out HU.out HC.out).mono ?_
  rintro e w1 ⟨rfl, m, rfl⟩
  clear c2
  go_wp2_with fail
  refine (cut_at t _ HTS.out).mono ?_
  rintro e W1 ⟨⟨v, rfl, ho⟩, hb1⟩
  obtain ⟨g, c, cur, hv, hg, hgb⟩ := OwnC.blk ho (by rw [HLEN.out]; omega)
  subst hv
  rw [HLEN.out] at ho ⊢
  have HLK : Hid (∀ (i : Nat) (p : Pc), (cutL t)[i]? = some p → cur[i * 2]? = some (.bool p.l) ∧ cur[i * 2 + 1]? = some (.string p.s)) := Lib.hid fun i p hi => OwnC.look ho hgb hi
  have HFIT := Lib.hid (cutL_fit t)
  obtain ⟨ps, hps⟩ : ∃ ps, ps = cutL t := ⟨_, rfl⟩
  rw [← hps] at HLK HFIT HLEN
  have HPS := Lib.hid hps
  have R1 : Hid (RackAt B W1 r (putS s first base used (ps.take 0))) := Lib.hid ((HR0.out.drewN m).below hb1)
  have K1 : Hid (Keep B w W1) := Lib.hid (((Keep.refl B w).drewN m).new hb1 (HR0.out.drewN m).le)
  have X1 : Hid (Blk W1 l 53 (logA r first count base used)) := Lib.hid (by
    have hd : Blk (w.drewN m) l 53 (logA r first count base used) := HX0.out
    exact hd.new_ hb1)
  have HGB := Lib.hid hgb
  clear ho hb1 hgb hps hg
  go_wp2_with fail
  go_loopw [29] (fun y wr => ∃ i : Nat, i ≤ n ∧ y = .int .i64 (i : Int) ∧ Hid (RackAt B wr r (putS s first base used (ps.take i))) ∧ Hid (Keep B w wr) ∧ Hid (Blk wr l 53 (logA r first count base used)) ∧ Hid (Blk wr g 59 cur)) (fun y _ => n - (intOf y).toNat)
  case atStart => exact ⟨0, by omega, rfl, R1, K1, X1, HGB⟩
  case round =>
    clear R1 K1 X1 HGB
    obtain ⟨i, hi, rfl, R, K, X, GB⟩ := hrel
    by_cases hlt : i < n
    · have j1 : (i : Int) < (n : Int) := by omega
      have hil : i < ps.length := by have := HLEN.out; omega
      obtain ⟨p, hp⟩ : ∃ p, p = ps[i] := ⟨_, rfl⟩
      have hpi : ps[i]? = some p := by rw [hp]; exact List.getElem?_eq_getElem hil
      have hstep : ps.take (i + 1) = ps.take i ++ [p] := by rw [List.take_succ_eq_append_getElem hil, hp]
      have hfit := HFIT.out p (by rw [hp]; exact List.getElem_mem hil)
      obtain ⟨S1, hS1⟩ : ∃ S1, S1 = putS s first base used (ps.take i) := ⟨_, rfl⟩
      have hSn : putS s first base used (ps.take (i + 1)) = wall S1 (first + (used + i)) (lst (pcL (base : Int) ((used + i : Nat) : Int) p)) S1.nd := by
        rw [hstep, putS_snoc, ← hS1, List.length_take, Nat.min_eq_left (by omega)]
      obtain ⟨hlk, hcs⟩ := putS_like first base (ps.take i) s used
      rw [← hS1] at hlk hcs
      rw [List.length_take, Nat.min_eq_left (by omega)] at hcs
      have hco : S1.cost + S1.nd ≤ 1000000 := by
        rw [hlk.nd]
        have h1 : s.nd * (i + 1) ≤ s.nd * n := Nat.mul_le_mul_left _ hlt
        rw [Nat.mul_succ] at h1
        have := HCO.out
        omega
      have hcl := hlk.calm HCM.out
      have hy : wrY S1 S1.nd = 0 := wrY_on (by rw [hlk.nd, cntW_like hlk]; exact HCW.out)
      have hqq : first + (used + i) < S1.ns := by rw [hlk.ns]; have := HQ.out; have := HN.out; omega
      have hff : first + (used + i) ≤ 1000000 := by have := HFK.out; have := HN.out; omega
      rw [← hS1] at R
      have HST := Lib.hid (⟨hSn, hfit, hco, hcl, hqq, hff, hy⟩ : _ ∧ _ ∧ _ ∧ _ ∧ _ ∧ _ ∧ _)
      obtain ⟨k0, k1⟩ := HLK.out i p hpi
      obtain ⟨pl, psx⟩ := p
      have q0 : wr.cell? ⟨g, i * 2, none⟩ = some (.bool pl) := by rw [GB.out.cell]; exact k0
      have q1 : wr.cell? ⟨g, i * 2 + 1, none⟩ = some (.string psx) := by rw [GB.out.cell]; exact k1
      obtain ⟨W2, hW2⟩ : ∃ W2, W2 = wr.alloc (.cells #[.bool pl, .string psx] 59) := ⟨_, rfl⟩
      obtain ⟨g7, hg7⟩ : ∃ g7, g7 = wr.heap.size := ⟨_, rfl⟩
      have R2 : Hid (RackAt B W2 r S1) := Lib.hid (by rw [hW2]; exact R.out.alloc _)
      have K2 : Hid (Keep B w W2) := Lib.hid (by rw [hW2]; exact K.out.alloc R.out.le _)
      have X2 : Hid (Blk W2 l 53 (logA r first count base used)) := Lib.hid (by rw [hW2]; exact X.out.alloc _)
      have G2 : Hid (Blk W2 g 59 cur) := Lib.hid (by rw [hW2]; exact GB.out.alloc _)
      have P2 : Hid (Blk W2 g7 59 #[.bool pl, .string psx]) := Lib.hid (by rw [hW2, hg7]; exact Blk.new _ _ _)
      have HX := Lib.hid (⟨hW2, hg7⟩ : _ ∧ _)
      clear hil hp hpi hstep hfit hS1 hSn hlk hcs hco hcl hy hqq hff k0 k1 hW2 hg7 R K X GB
      go_upto_region 11 with (fail)
      rw [← HX.out.1, ← HX.out.2]
      clear HX q0 q1
      have HRD := Lib.hid R2.out.drew
      have KD := Lib.hid K2.out.drew
      have XD : Hid (Blk W2.drew l 53 (logA r first count base used)) := X2
      have GD : Hid (Blk W2.drew g 59 cur) := G2
      have PD : Hid (Blk W2.drew g7 59 #[.bool pl, .string psx]) := P2
      have HS0 : Hid (W2.drew.cell? ⟨l, 4, none⟩ = some (.int .i64 (used : Int)) ∧ Blk W2.drew g7 59 #[.bool pl, .string psx]) := Lib.hid ⟨XD.out.cell 4, PD.out⟩
      have HUI : Hid (used + i ≤ 1000000) := Lib.hid (by omega)
      refine region_anyZ (fun W => W.cell? ⟨l, 4, none⟩ = some (.int .i64 (used : Int)) ∧ Blk W g7 59 #[.bool pl, .string psx]) 10 (by kernel_rfl) ?_
      refine takeG 0 (.move (.tmp 0)) (some 34) none (.pointer (some ⟨l, 0, none⟩)) (by kernel_rfl) (by kernel_rfl) (by kernel_rfl) (fun _ _ _ h => h) (fun o' wq e hS => exec_move wq e (by kernel_rfl)) HS0.out ?_
      refine takeG 1 (.move (.tmp 0)) (some 35) none (.pointer (some ⟨l, 0, none⟩)) (by kernel_rfl) (by kernel_rfl) (by kernel_rfl) (fun _ _ _ h => h) (fun o' wq e hS => exec_move wq e (by kernel_rfl)) HS0.out ?_
      refine takeG 2 (.nilCheck (.tmp 35)) (some 36) none (.pointer (some ⟨l, 0, none⟩)) (by kernel_rfl) (by kernel_rfl) (by kernel_rfl) (fun _ _ _ h => h) (fun o' wq e hS => exec_nil wq e (by kernel_rfl)) HS0.out ?_
      refine takeG 3 (.fieldAddr 53 (.tmp 36) 4) (some 37) none (.pointer (some ⟨l, 4, none⟩)) (by kernel_rfl) (by kernel_rfl) (by kernel_rfl) (fun _ _ _ h => h) (fun o' wq e hS => exec_field (u := .pointer (some ⟨l, 0, none⟩)) wq e (by kernel_rfl) (by kernel_rfl)) HS0.out ?_
      refine takeG 4 (.load 3 (.tmp 37)) (some 38) none (.int .i64 (used : Int)) (by kernel_rfl) (by kernel_rfl) (by kernel_rfl) (fun _ _ _ h => h) (fun o' wq e hS => exec_load (x := (.tmp 37)) e (by kernel_rfl) (load_one Tryd.underlying3 (by kernel_rfl) hS.1)) HS0.out ?_
      refine takeG 5 (.move (.tmp 6)) (some 39) none (.int .i64 (i : Int)) (by kernel_rfl) (by kernel_rfl) (by kernel_rfl) (fun _ _ _ h => h) (fun o' wq e hS => exec_move wq e (by kernel_rfl)) HS0.out ?_
      refine takeG 6 (.binOp .add 3 (.tmp 38) (.tmp 39) 3) (some 40) none (.int .i64 ((used + i : Nat) : Int)) (by kernel_rfl) (by kernel_rfl) (by kernel_rfl) (fun _ _ _ h => h) (fun o' wq e hS => exec_bin (u1 := .int .i64 (used : Int)) (u2 := .int .i64 (i : Int)) wq e (by kernel_rfl) (by kernel_rfl) (eqG_int ..) (add_fk HUI.out _)) HS0.out ?_
      refine takeG 7 (.load 59 (.tmp 7)) (some 41) none (.agg #[.bool pl, .string psx]) (by kernel_rfl) (by kernel_rfl) (by kernel_rfl) (fun _ _ _ h => h) (fun o' wq e hS => exec_load (x := (.tmp 7)) e (by kernel_rfl) (load_blk hS.2 Tryd.underlying59 rfl isize_piece)) HS0.out ?_
      refine loneG 8 (.call ⟨.value (.func 24), #[(.tmp 34), (.tmp 40), (.tmp 41)], #[29, 3, 59]⟩) (some 42) none (by kernel_rfl) (by kernel_rfl) (by kernel_rfl) ?_
      intro o' ho hod
      refine wp_callC (f := 24) (args := #[.pointer (some ⟨l, 0, none⟩), .int .i64 ((used + i : Nat) : Int), .agg #[.bool pl, .string psx]]) (by cases o'; cases ho; kernel_rfl) (write_at _ r l S1 first count base used (used + i) pl psx HRD.out XD.out (HLD.out.below KD.out.below hB) hB HST.out.2.2.2.1 HST.out.2.2.2.2.1 HST.out.2.1 HBS.out HST.out.2.2.2.2.2.1 HST.out.2.2.1) ?_
      rintro e w4 ⟨rfl, h4, k4⟩
      refine ⟨_, rfl, ?_⟩
      rw [hod]
      clear hod ho
      have R3 := Lib.hid h4
      have K4 := Lib.hid (KD.out.trans k4)
      have X4 := Lib.hid (k4.block XD.out rfl)
      have B4 := Lib.hid (k4.block GD.out rfl)
      have HS1 : Hid (w4.cell? ⟨l, 4, none⟩ = some (.int .i64 (used : Int)) ∧ Blk w4 g7 59 #[.bool pl, .string psx]) := Lib.hid ⟨X4.out.cell 4, k4.block PD.out rfl⟩
      clear h4 k4
      refine ⟨fun _ => HS1.out, ?_⟩

      refine lastS 9 (.assign (.tmp 42)) (some 8) (.int .i64 (wrY S1 S1.nd)) (by kernel_rfl) (by kernel_rfl) (by kernel_rfl) HS1.out (fun o' e => exec_assign _ e (by kernel_rfl)) ?_
      simp only [put_some, put_none, List.setIfInBounds_toArray, List.set_cons_succ, List.set_cons_zero]
      clear HS0 HS1 HRD KD XD GD PD R2 K2 X2 G2 P2
      rw [HST.out.2.2.2.2.2.2]
      have R4 : Hid (RackAt B w4 r (putS s first base used (ps.take (i + 1)))) := Lib.hid (by rw [HST.out.1]; exact R3.out)
      clear R3 HST
      go_wp2_with fail
      go_roundw
      case rel => exact ⟨i + 1, by omega, by go_num, R4, K4, X4, B4⟩
      case measure => simp [intOf]; omega
    · have j1 : ¬ ((i : Int) < (n : Int)) := by omega
      obtain rfl : n = i := by omega
      have c4 : wr.cell? ⟨l, 4, none⟩ = some (.int .i64 (used : Int)) := X.out.cell 4
      have f4 : wr.frozen? ⟨l, 4, none⟩ = false := X.out.frozen 4
      have e4 : IntKind.i64.wrap ((used : Int) + (n : Int)) = ((used + n : Nat) : Int) := by rw [IntWalk.i64_in _ (by omega)]; omega
      go_wp2_with fail
      go_ret
      have e5 : ps.take n = ps := List.take_of_length_le (by rw [HLEN.out]; omega)
      have hX := X.out.set_ 4 (.int .i64 ((used + n : Nat) : Int))
      refine ⟨rfl, ?_, ?_, ?_⟩
      · rw [← HPS.out]
        have := R.out.far (x := .int .i64 ((used + n : Nat) : Int)) X.out (p := ⟨l, 4, none⟩) rfl rfl
        rw [e5] at this
        exact this
      · exact hX
      · exact (KL.of_keep K.out).setLog HBL.out 4 _
end
end Itn
end Go.Proofs.YtikenhcglbfgpaaDoor
