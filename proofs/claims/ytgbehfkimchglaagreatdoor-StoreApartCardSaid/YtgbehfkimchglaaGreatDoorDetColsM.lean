/-
 What a rack holds behind a write, a flush, a crash: plain words on its state. No conditions beyond those that each theorem types.
-/
import Derived.Test.YtgbehfkimchglaaGreatDoorArrWrM
import Derived.Test.YtgbehfkimchglaaGreatDoorArrLayM
import Derived.Lib.AppendZeros
import Derived.Test.YtgbehfkimchglaaGreatDoorParKnownM
import Derived.Test.YtgbehfkimchglaaGreatDoorParWholeM
import Derived.Test.YtgbehfkimchglaaGreatDoorSpcPartM
namespace Go.Proofs.YtgbehfkimchglaaGreatDoor
set_option maxRecDepth 100000
open Go Go.RowKit
set_option linter.unusedVariables false
end Go.Proofs.YtgbehfkimchglaaGreatDoor
namespace Go.Proofs.YtgbehfkimchglaaGreatDoor
open Go Go.RowKit refRack
set_option maxRecDepth 100000
set_option linter.unusedVariables false
namespace Arr
def wrAll (s : RS) (f ad : Nat) (Y : Nat → Nat → Nat) : Nat → RS
 | 0 => s
 | k + 1 => if goneC s (ad + k) = true then wrAll s f ad Y k else (wrAll s f ad Y k).wrote ((ad + k) % s.nd) (f + (ad + k) / s.nd) (Y k)
theorem wrAll_succ (s : RS) (f ad : Nat) (Y : Nat → Nat → Nat) (k : Nat) : wrAll s f ad Y (k + 1) = if goneC s (ad + k) = true then wrAll s f ad Y k else (wrAll s f ad Y k).wrote ((ad + k) % s.nd) (f + (ad + k) / s.nd) (Y k) := rfl
structure Like (s t : RS) : Prop where
 nd : t.nd = s.nd
 ns : t.ns = s.ns
 gone : t.gone = s.gone
 off : t.off = s.off
 armed : t.armed = s.armed
theorem Like.refl (s : RS) : Like s s := ⟨rfl, rfl, rfl, rfl, rfl⟩
theorem Like.trans {s t u : RS} (h : Like s t) (k : Like t u) : Like s u := ⟨k.nd.trans h.nd, k.ns.trans h.ns, k.gone.trans h.gone, k.off.trans h.off, k.armed.trans h.armed⟩
theorem Like.calm {s t : RS} (h : Like s t) (hc : s.calm) : t.calm := ⟨by rw [h.off]; exact hc.1, by rw [h.armed]; exact hc.2⟩
theorem Like.goneC {s t : RS} (h : Like s t) (c : Nat) : goneC t c = goneC s c := by unfold Arr.goneC; rw [h.gone, h.nd]
theorem Like.cells {s t : RS} (h : Like s t) (f : Nat) : cells t f = cells s f := by unfold Arr.cells; rw [h.nd, h.ns]
theorem wrAll_like (s : RS) (f ad : Nat) (Y : Nat → Nat → Nat) : ∀ k, Like s (wrAll s f ad Y k) ∧ (wrAll s f ad Y k).cost ≤ s.cost + k
 | 0 => ⟨Like.refl s, Nat.le_refl _⟩
 | k + 1 => by
  obtain ⟨h, hc⟩ := wrAll_like s f ad Y k
  rw [wrAll_succ]
  split
  ·exact ⟨h, by omega⟩
  ·exact ⟨⟨h.nd, h.ns, h.gone, h.off, h.armed⟩, by show (wrAll s f ad Y k).cost + 1 ≤ _; omega⟩
end Arr
end Go.Proofs.YtgbehfkimchglaaGreatDoor
namespace Go.Proofs.YtgbehfkimchglaaGreatDoor
open Go Go.RowKit refRack
set_option maxRecDepth 100000
set_option linter.unusedVariables false
namespace Arr
theorem _root_.Go.Proofs.YtgbehfkimchglaaGreatDoor.OwnS.keepK {B : Nat} {w w' : World} {base n : Nat} {v : Value} {H : Nat → Hd} (h : OwnS w base v n H) (hk : Keep B w w') : OwnS w' base v n H := by
 rcases h with h | ⟨g, cap, cur, fr, e, h1, h2, h3⟩
 ·exact .inl h
 ·exact .inr ⟨g, cap, cur, fr, e, h1, hk.kept g _ h2 rfl, h3⟩
theorem Rws.keepK {B : Nat} {w w' : World} {base lo n : Nat} {v : Value} {H : Nat → Hd} {X : Nat → Nat → Nat} (h : Rws w base lo v n H X) (hk : Keep B w w') : Rws w' base lo v n H X :=
 ⟨h.own.keepK hk, fun j hj => by
  obtain ⟨R, c, e1, e2, e3, e4, e5⟩ := h.row j hj
  exact ⟨R, c, e1, e2, e3, e4, e5.keepK hk⟩⟩
theorem _root_.Go.Proofs.YtgbehfkimchglaaGreatDoor.OwnS.block {w : World} {base n : Nat} {v : Value} {H : Nat → Hd} (h : OwnS w base v n H) (hn : 0 < n) : ∃ g c, v = .slice (some ⟨g, 0, none⟩) n c ∧ n ≤ c ∧ c ≤ maxLen ∧ base ≤ g := by
 rcases h with ⟨_, e⟩ | ⟨g, cap, cur, fr, e, h1, h2, h3, h4, h5, _⟩
 ·omega
 ·exact ⟨g, cap, e, h4, h5, h1⟩
theorem _root_.Go.Proofs.YtgbehfkimchglaaGreatDoor.OwnS.at_ {w : World} {base n g c : Nat} {H : Nat → Hd} (h : OwnS w base (.slice (some ⟨g, 0, none⟩) n c) n H) {j : Nat} (hj : j < n) : w.cell? ⟨g, j, none⟩ = some (hdV (H j)) := by
 rcases h with ⟨e, _⟩ | ⟨g', cap, cur, fr, e, h1, h2, h3, h4, h5, h6, h7⟩
 ·cases e
 ·cases e
  rw [cell_of_row _ _ _ _ _ _ h2]
  exact h7 j hj
section
variable {B a r f : Nat} {w w' : World} {s s' : RS}
def goneB (s : RS) (ad n : Nat) : List Nat := goneL s (Sq.srt (drvL s.nd ad (min (cost s.nd n) s.nd)))
theorem drv_lt {N ad m : Nat} (hN : 0 < N) : ∀ d ∈ Sq.srt (drvL N ad m), d < N := fun d hd => by
 rw [Sq.mem_srt] at hd
 unfold drvL at hd
 rw [List.mem_map] at hd
 obtain ⟨i, _, rfl⟩ := hd
 exact Nat.mod_lt _ hN
set_option maxHeartbeats 3200000 in
theorem write_no (w : World) (h : At B w a r f s) (A : Option Addr) (n c ad : Nat) (h1 : 1 ≤ n) (hn : n ≤ 1024) (hc : ad + cost s.nd n ≤ cells s f) (hg : 3 < (goneB s ad n).length) :
  Calls Tryz.prog 61 #[.pointer (some ⟨a, 0, none⟩), .int .i64 (ad : Int), .slice A n c] w fun e w' => e = .returned (.int .i64 4) ∧ Below w.heap.size w w' := by
 have HD := Lib.hid (drives_ok w h ad n h1 hn hc)
 have HA := Lib.hid h
 have HG := Lib.hid hg
 have HL : Hid (∀ d ∈ Sq.srt (drvL s.nd ad (min (cost s.nd n) s.nd)), d < s.nd) := Lib.hid (drv_lt (by have := h.five; omega))
 have HLN : Hid ((Sq.srt (drvL s.nd ad (min (cost s.nd n) s.nd))).length ≤ 1000) := Lib.hid (by
  rw [Sq.srt_length, drvL_length]
  have := h.bounds.1
  omega)
 unfold goneB at HG
 generalize Sq.srt (drvL s.nd ad (min (cost s.nd n) s.nd)) = l at *
 clear h hc hg
 go_enter Tryz.func61, Tryz.ntmps61
 go_wp2_with fail
 refine HD.out.mono ?_
 rintro e w1 ⟨v1, rfl, h1', b1⟩
 have B1 := Lib.hid b1
 have HI := Lib.hid (Sq.own_ints h1')
 clear h1' b1
 go_wp2_with fail
 refine (gone_split w1 (HA.out.grown_ B1.out) v1 l HI.out HL.out HLN.out).mono ?_
 rintro e w2 ⟨v2, v3, rfl, h2, h3, h4, b2⟩
 have B2 := Lib.hid (B1.out.trans (b2.mono B1.out.size))
 obtain ⟨A2, c2, rfl⟩ : ∃ A2 c2, v2 = .slice A2 (goneL s l).length c2 := by
  rcases Nr.own_shape h2 with ⟨rfl, e⟩ | ⟨g, c, rfl, _⟩
  ·exact ⟨none, 0, by rw [e]; rfl⟩
  ·exact ⟨_, _, rfl⟩
 have hgl : (3 : Int) < (((goneL s l).length : Nat) : Int) := by have := HG.out; omega
 generalize (goneL s l).length = gl at *
 clear h2 h3 h4 b2
 go_wp2_with fail
 go_ret
 exact ⟨rfl, B2.out⟩
set_option maxHeartbeats 3200000 in
theorem write_ok (w : World) (h : At B w a r f s) (hcal : s.calm) (A : Option Addr) (n c ad Bx : Nat) (X : Nat → Nat) (hx : RdB w Bx A n X) (hX : ∀ j, j < n → X j < 256) (hBx : Bx ≤ w.heap.size) (hnc : n ≤ c) (hcm : c ≤ maxLen) (h1 : 1 ≤ n) (hn : n ≤ 1024) (hc : ad + cost s.nd n ≤ cells s f) (hg : (goneB s ad n).length ≤ 3) (hcost : s.cost + cost s.nd n ≤ 1000000) :
  Calls Tryz.prog 61 #[.pointer (some ⟨a, 0, none⟩), .int .i64 (ad : Int), .slice A n c] w fun e w' => e = .returned (.int .i64 0) ∧ RackAt B w' r (wrAll s f ad (cellX s.nd n X) (cost s.nd n)) ∧ Keep B w w' := by
 have HD := Lib.hid (drives_ok w h ad n h1 hn hc)
 have HA := Lib.hid h
 have HG := Lib.hid hg
 have HLE := Lib.hid h.rack.le
 have HL : Hid (∀ d ∈ Sq.srt (drvL s.nd ad (min (cost s.nd n) s.nd)), d < s.nd) := Lib.hid (drv_lt (by have := h.five; omega))
 have HLN : Hid ((Sq.srt (drvL s.nd ad (min (cost s.nd n) s.nd))).length ≤ 1000) := Lib.hid (by
  rw [Sq.srt_length, drvL_length]
  have := h.bounds.1
  omega)
 unfold goneB at HG
 have HLAY : Hid (∀ W, Below w.heap.size w W → Calls Tryz.prog 108 #[.slice A n c, .int .i64 ((s.nd - 3 : Nat) : Int)] W fun e w' => ∃ v, e = .returned v ∧ (∃ H, Rws w' W.heap.size W.heap.size v (cost s.nd n) H (cellX s.nd n X)) ∧ Below W.heap.size W w') := Lib.hid fun W hW =>
  lay_any A n c Bx s.nd X W (hx.below hW hBx) hX (Nat.le_trans hBx hW.size) hnc hcm h1 hn h.five h.bounds.1
 have HCAL := Lib.hid hcal
 have HY : Hid (∀ j v, cellX s.nd n X j v < 256) := Lib.hid (cellX_lt hX)
 have HC : Hid (ad + cost s.nd n ≤ cells s f ∧ s.cost + cost s.nd n ≤ 1000000 ∧ cells s f ≤ 32000) := Lib.hid ⟨hc, hcost, cells_le h⟩
 have hC1 : 1 ≤ cost s.nd n := by have := secs_pos h1; unfold cost; omega
 have hC2 : ad + cost s.nd n ≤ 32000 := by have := cells_le h; omega
 have HWA := Lib.hid (fun k => wrAll_like s f ad (cellX s.nd n X) k)
 have HWS := Lib.hid (fun k => wrAll_succ s f ad (cellX s.nd n X) k)
 have HW0 : Hid (wrAll s f ad (cellX s.nd n X) 0 = s) := Lib.hid rfl
 generalize Sq.srt (drvL s.nd ad (min (cost s.nd n) s.nd)) = l at *
 generalize hCC : cost s.nd n = C at *
 generalize cellX s.nd n X = Y at *
 generalize hT : wrAll s f ad Y = T at *
 have HCC := Lib.hid hCC
 clear h hc hg hcost hx hX hBx hnc hcm hcal hCC hT
 go_enter Tryz.func61, Tryz.ntmps61
 go_wp2_with fail
 refine HD.out.mono ?_
 rintro e w1 ⟨v1, rfl, h1', b1⟩
 have B1 := Lib.hid b1
 have HI := Lib.hid (Sq.own_ints h1')
 clear h1' b1
 go_wp2_with fail
 refine (gone_split w1 (HA.out.grown_ B1.out) v1 l HI.out HL.out HLN.out).mono ?_
 rintro e w2 ⟨v2, v3, rfl, h2, h3, h4, b2⟩
 have B2 := Lib.hid (B1.out.trans (b2.mono B1.out.size))
 obtain ⟨A2, c2, rfl⟩ : ∃ A2 c2, v2 = .slice A2 (goneL s l).length c2 := by
  rcases Nr.own_shape h2 with ⟨rfl, e⟩ | ⟨g, c, rfl, _⟩
  ·exact ⟨none, 0, by rw [e]; rfl⟩
  ·exact ⟨_, _, rfl⟩
 have hgl : ¬ (3 : Int) < (((goneL s l).length : Nat) : Int) := by have := HG.out; omega
 generalize (goneL s l).length = gl at *
 clear h2 h3 h4 b2 HI
 have A2' := Lib.hid (HA.out.grown_ B2.out)
 go_wp2_with fail
 refine (width_any w2 A2'.out).mono ?_
 rintro e w2' ⟨rfl, rfl⟩
 go_wp2_with fail
 refine (HLAY.out w2' B2.out).mono ?_
 rintro e w3 ⟨v4, rfl, ⟨H, hr⟩, b3⟩
 have B3 := Lib.hid (B2.out.trans (b3.mono B2.out.size))
 have R3 := Lib.hid hr
 have A3 := Lib.hid (A2'.out.grown_ b3)
 have K3 := Lib.hid ((Keep.refl B w).new B3.out HLE.out)
 obtain ⟨g4, c4, rfl, hc4, hc4m, _⟩ := hr.own.block (by omega)
 clear hr b3 HLAY A2'
 go_wp2_with fail
 go_loopw [39] (fun y wr => ∃ i : Nat, i ≤ C ∧ y = .int .i64 (i : Int) ∧ Hid (RackAt B wr r (T i)) ∧ Hid (Keep B w3 wr)) (fun y _ => C - (intOf y).toNat)
 case atStart => exact ⟨0, Nat.zero_le _, rfl, Lib.hid (by rw [HW0.out]; exact A3.out.rack), Lib.hid (Keep.refl _ _)⟩
 case round =>
  obtain ⟨i, hi, rfl, HR, HK⟩ := hrel
  by_cases hlt : i < C
  ·have hlk := HWA.out i
   have AR := Lib.hid (A3.out.rack_ HR.out HK.out hlk.1.nd hlk.1.ns)
   have c0 := AR.out.c0
   obtain ⟨Rj, cj, eH, q1, q2, q3, q4⟩ := (R3.out.keepK HK.out).row i hlt
   have d1 := (R3.out.own.keepK HK.out).at_ hlt
   rw [eH] at d1
   have d1 : wr.cell? ⟨g4, i, none⟩ = some (.slice (some ⟨Rj, 0, none⟩) 128 cj) := d1
   have QR := Lib.hid q4
   have t2 : (i : Int) < (C : Int) := by omega
   have HDR := Lib.hid (fun m => drive_any (wr.drewN m) (AR.out.drewN m) (ad + i) (by omega))
   have hcin : ad + i < cells s f := by have := HC.out.1; omega
   have hpl := cell_in HA.out hcin
   have hpl2 : (ad + i) % (T i).nd < (T i).nd := by rw [hlk.1.nd]; exact hpl.1
   have HGN := Lib.hid (fun m => goneDC (wr.drewN m) (AR.out.drewN m) hpl2)
   have HGE : Hid ((T i).gone ((ad + i) % (T i).nd) = goneC s (ad + i)) := Lib.hid (by unfold goneC; rw [hlk.1.gone, hlk.1.nd])
   rw [HGE.out] at HGN
   have HWR : Hid (∀ W, At B W a r f (T i) → RowG W Rj 128 (Y i) → goneC s (ad + i) = false → Calls Tryz.prog 111 #[.pointer (some ⟨a, 0, none⟩), .int .i64 ((ad + i : Nat) : Int), .slice (some ⟨Rj, 0, none⟩) 128 cj] W fun e w' => e = .returned (.int .i64 0) ∧ RackAt B w' r (T (i + 1)) ∧ Keep B W w') := Lib.hid fun W hW hRow hgf => by
    have h := write_any W hW (hlk.1.calm HCAL.out) (ad + i) (by rw [hlk.1.cells]; exact hcin) (by rw [hlk.1.goneC]; exact hgf) Rj cj (Y i) hRow (fun j _ => HY.out i j) (by have := hlk.2; have := HC.out.2.1; omega)
    rw [hlk.1.nd] at h
    rw [HWS.out i, hgf, if_neg (by decide)]
    exact h
   have HNX : Hid (goneC s (ad + i) = true → T (i + 1) = T i) := Lib.hid fun hg => by rw [HWS.out i, if_pos hg]
   generalize (T i).nd = nn at *
   have hmm : (ad + i) % nn ≤ ad + i := Nat.mod_le _ _
   generalize hmd : (ad + i) % nn = md at *
   clear hlk eH q1 q2 q3 q4 hcin hpl hpl2 HGE hmd
   go_upto_region 10 with (fail)
   go_quiet (first | (go_at_call 110; exact Calls.quiet_of_same (HDR.out _)) | (go_at_call 109; exact Calls.quiet_of_same (HGN.out _)))
   have A5 := Lib.hid (AR.out.drewN nq)
   have Q5 := Lib.hid (QR.out.drewN nq)
   have R5 : Hid (RackAt B (wr.drewN nq) r (T i)) := Lib.hid (HR.out.drewN nq)
   have K5 : Hid (Keep B w3 (wr.drewN nq)) := Lib.hid (HK.out.drewN nq)
   cases hgc : goneC s (ad + i) with
   | true =>
    have HN5 := Lib.hid (HNX.out hgc)
    clear hgc
    go_wp2_with fail
    go_roundw
    case rel => exact ⟨i + 1, by omega, by go_num, Lib.hid (by rw [HN5.out]; exact R5.out), K5⟩
    case measure => simp [intOf]; omega
   | false =>
    have HW5 := Lib.hid (HWR.out _ A5.out Q5.out hgc)
    clear hgc
    go_wp2_with fail
    refine HW5.out.mono ?_
    rintro e w6 ⟨rfl, h6, k6⟩
    have R6 := Lib.hid h6
    have K6 := Lib.hid (K5.out.trans k6)
    clear h6 k6
    go_wp2_with fail
    go_roundw
    case rel => exact ⟨i + 1, by omega, by go_num, R6, K6⟩
    case measure => simp [intOf]; omega
  ·obtain rfl : i = C := by omega
   go_wp2_with fail
   go_ret
   exact ⟨rfl, HR.out, K3.out.trans HK.out⟩
end
end Arr
end Go.Proofs.YtgbehfkimchglaaGreatDoor
namespace Go.Proofs.YtgbehfkimchglaaGreatDoor
open Go Go.RowKit
set_option maxRecDepth 100000
set_option linter.unusedVariables false
namespace Cc
theorem rd_flatC {α : Type} {k : Nat} {cs : α → List Value} (hk : ∀ x, (cs x).length = k) (hk0 : 0 < k) {w : World} {b o : Nat} {l : List α} (h : Gr.RdG k cs w (some ⟨b, o, none⟩) l) :
  ∀ j u, (l.flatMap cs)[j]? = some u → w.cell? ((⟨b, o, none⟩ : Addr).add j) = some u := by
 intro j u hj
 have hlt : j < l.length * k := by have := (List.getElem?_eq_some_iff.1 hj).1; rw [Gr.flat_length hk] at this; exact this
 have hi : j / k < l.length := Nat.div_lt_of_lt_mul (by rw [Nat.mul_comm]; exact hlt)
 have hx := List.getElem?_eq_getElem hi
 obtain ⟨b', o', e, _, hc⟩ := h _ _ hx
 injection e with e
 injection e with e1 e2
 subst e1 e2
 have hdm : j / k * k + j % k = j := Nat.div_add_mod' j k
 have hf := Gr.flat_get hk hx (j % k) (Nat.mod_lt _ hk0)
 rw [hdm, hj] at hf
 have := hc (j % k) u hf.symm
 rw [add_plain, ← hdm, ← Nat.add_assoc]
 exact this
section
variable {α : Type} {E T : TypeId} {cs : α → List Value} {z : Value} {bytes : Nat} {w : World} {base : Nat} {v : Value} {l : List α}
end
end Cc
end Go.Proofs.YtgbehfkimchglaaGreatDoor
namespace Go.Proofs.YtgbehfkimchglaaGreatDoor
open Go Go.RowKit refRack
set_option maxRecDepth 100000
set_option linter.unusedVariables false
namespace Arr
def hdsA (n : Nat) (H : Nat → Hd) : Array Value := Array.ofFn (n := n) fun j => hdV (H j.val)
section
variable {B a r f : Nat} {w w' : World} {s s' : RS}
structure LoadAt (B : Nat) (w0 w : World) (g n i : Nat) (f ad : Nat) (s : RS) (H : Nat → Hd) : Prop where
 head : Blk w g 76 (hdsA n H)
 row : ∀ j, j < i → w.ownsRow w0.heap.size 5 1 (hdV (H j)) (lenC s (ad + j)) (rowL (lenC s (ad + j)) (holdsC s f (ad + j)))
end
end Arr
end Go.Proofs.YtgbehfkimchglaaGreatDoor
namespace Go.Proofs.YtgbehfkimchglaaGreatDoor.D
open Go Go.RowKit
set_option maxRecDepth 100000
set_option linter.unusedVariables false
structure Cols (w : World) (base : Nat) (v : Value) (i n : Nat) (H : Nat → Hd) (R : Nat → Nat) (x : Nat → Nat → Nat) : Prop where
 own : OwnS w base v i H
 hd : ∀ j, j < i → ∃ c, H j = (some ⟨R j, 0, none⟩, n, c) ∧ n ≤ c ∧ c ≤ maxLen
 row : ∀ j, j < i → base ≤ R j ∧ RowG w (R j) n (x j)
 apart : ∀ j k, j < k → k < i → R j ≠ R k
section
variable {w w' : World} {base i n : Nat} {v : Value} {H : Nat → Hd} {R : Nat → Nat} {x : Nat → Nat → Nat}
end
end Go.Proofs.YtgbehfkimchglaaGreatDoor.D
