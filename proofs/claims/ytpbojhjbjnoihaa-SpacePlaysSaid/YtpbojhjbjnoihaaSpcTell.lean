/-
  '(part).row' by a contract: the least cell from which so many in a row are there. Conditions: the ranges are short, their ends small.
-/
import Derived.Test.YtpbojhjbjnoihaaSpcWith
namespace Go.Proofs.Ytpbojhjbjnoihaa
open Go Go.RowKit
set_option maxRecDepth 100000
set_option linter.unusedVariables false
namespace Sp
theorem rowL_skip {m : Nat} {r : Rg} {l : List Rg} {i : Nat} (h : l[i]? = some r) (hm : ¬ m ≤ r.2 - r.1) (e : rowL m l = rowL m (l.drop i)) : rowL m l = rowL m (l.drop (i + 1)) := by
  obtain ⟨hi, he⟩ := List.getElem?_eq_some_iff.1 h
  rw [e, List.drop_eq_getElem_cons hi, he]
  exact if_neg hm
theorem rowL_hit {m : Nat} {r : Rg} {l : List Rg} {i : Nat} (h : l[i]? = some r) (hm : m ≤ r.2 - r.1) (e : rowL m l = rowL m (l.drop i)) : rowL m l = some r.1 := by
  obtain ⟨hi, he⟩ := List.getElem?_eq_some_iff.1 h
  rw [e, List.drop_eq_getElem_cons hi, he]
  exact if_pos hm
set_option maxHeartbeats 1600000 in
theorem row_rg (w : World) (A : Option Addr) (l : List Rg) (c m : Nat) (cnt : Int) (h : Rd w A l) (hn : l.length ≤ 100000) (hs : ∀ r ∈ l, r.1 < r.2 ∧ r.2 ≤ 1000000) :
    Calls Try.prog 32 #[.agg #[.slice A l.length c, .int .i64 cnt], .int .i64 (m : Int)] w fun e w' => e = .returned (.tuple #[.int .i64 (((rowL m l).getD 0 : Nat) : Int), .bool (rowL m l).isSome]) ∧ Below w.heap.size w w' := by
  have HS := Lib.hid hs
  have HR := Lib.hid h
  have hBd := Below.refl w.heap.size w
  obtain ⟨n, hnn⟩ : ∃ n, n = l.length := ⟨_, rfl⟩
  have HN := Lib.hid hnn
  obtain ⟨ans, hans⟩ : ∃ ans, ans = rowL m l := ⟨_, rfl⟩
  have HA := Lib.hid hans
  rw [← hnn] at hn
  rw [← hnn, ← hans]
  have L1 : Hid (Below w.heap.size w (w.alloc (.cells #[.slice A n c, .int .i64 cnt] 60))) := Lib.hid (hBd.alloc (Nat.le_refl _) _)
  clear hs h hnn hans hBd
  go_enter Try.func32, Try.ntmps32
  go_wp2_with fail
  go_loopw [11] (fun y wr => ∃ i : Nat, i ≤ n ∧ y = .int .i64 (i : Int) ∧ Hid (rowL m l = rowL m (l.drop i)) ∧ Hid (Below w.heap.size w wr)) (fun y _ => n - (intOf y).toNat)
  case atStart => exact ⟨0, by omega, rfl, Lib.hid rfl, L1⟩
  case round =>
    clear L1
    obtain ⟨i, hi, rfl, HD, L0⟩ := hrel
    by_cases hlt : i < n
    · have i1 : (i : Int) < (n : Int) := by omega
      obtain ⟨r, g, o, hg, hAe, h1, h2⟩ := (HR.out.below L0.out).at_ (i := i) (by have := HN.out; omega)
      have hrm : r.1 < r.2 ∧ r.2 ≤ 1000000 := HS.out r (List.mem_of_getElem? hg)
      have HG := Lib.hid hg
      subst hAe
      obtain ⟨x, hx⟩ : ∃ x, x = r.1 := ⟨_, rfl⟩
      obtain ⟨y, hy⟩ : ∃ y, y = r.2 := ⟨_, rfl⟩
      rw [← hx, ← hy] at hrm
      rw [← hx] at h1
      rw [← hy] at h2
      have HXY := Lib.hid (⟨hx, hy⟩ : x = r.1 ∧ y = r.2)
      clear hx hy hg
      have hrm1 := hrm.1
      have hrm2 := hrm.2
      clear hrm
      go_wp2_with fail
      refine (size_rg _ x y (by omega) (by omega)).mono ?_
      rintro e w2 ⟨rfl, b2⟩
      have hsz := L0.out.size
      have L2 := Lib.hid ((L0.out.alloc hsz (.cells #[.int .i64 (x : Int), .int .i64 (y : Int)] 34)).trans (b2.mono (Nat.le_trans hsz (by simp))))
      have B7 := Lib.hid ((Blk.new wr 34 #[.int .i64 (x : Int), .int .i64 (y : Int)]).below b2 (by simp))
      have d0 : w2.cell? ⟨wr.heap.size, 0, none⟩ = some (.int .i64 (x : Int)) := B7.out.cell 0
      clear b2 B7 hsz h1 h2
      by_cases hmm : m ≤ y - x
      · have HD2 := Lib.hid (rowL_hit HG.out (by have := HXY.out; omega) HD.out)
        have t1 : (m : Int) ≤ (y : Int) - (x : Int) := by omega
        have hans : ans = some x := by rw [HA.out, HD2.out, HXY.out.1]
        have HA2 := Lib.hid hans
        clear hans HD HG HXY HD2 L0 HR
        go_wp2_with fail
        go_ret2
        exact ⟨by rw [HA2.out]; rfl, L2.out⟩
      · have HD2 := Lib.hid (rowL_skip HG.out (by have := HXY.out; omega) HD.out)
        have t1 : ¬ ((m : Int) ≤ (y : Int) - (x : Int)) := by omega
        clear HD HG HXY L0
        go_wp2_with fail
        go_roundw
        case rel => exact ⟨i + 1, by omega, by go_num, HD2, L2⟩
        case measure => simp [intOf]; omega
    · have i1 : ¬ ((i : Int) < (n : Int)) := by omega
      have hans : ans = none := by rw [HA.out, HD.out, List.drop_eq_nil_of_le (by have := HN.out; omega)]; rfl
      have HA2 := Lib.hid hans
      clear hans HD HR
      go_wp2_with fail
      go_ret2
      exact ⟨by rw [HA2.out]; rfl, L0.out⟩
end Sp
end Go.Proofs.Ytpbojhjbjnoihaa
