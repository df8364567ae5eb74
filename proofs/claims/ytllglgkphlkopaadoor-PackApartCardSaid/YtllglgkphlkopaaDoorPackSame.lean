/-
  'hoardref05.Same' by contracts. Conditions: lists that read as items.
-/
import Derived.Test.YtllglgkphlkopaaDoorPackKnown
namespace Go.Proofs.YtllglgkphlkopaaDoor
open Go Go.RowKit
set_option linter.unusedVariables false

theorem bytes_eq {a b : ByteArray} (h : a.toList = b.toList) : a = b := by
  obtain ⟨a⟩ := a
  obtain ⟨b⟩ := b
  rw [ByteArray.toList_eq, ByteArray.toList_eq] at h
  congr 1
  exact Array.toList_inj.1 h
theorem neq_same (x : K.It) (W : World) : (binOp .neq 31 (.agg (itA x)) (.agg (itA x))).run Tryd.prog W = .ok (.bool false) W := by
  unfold itA
  simp [go_sem, run_neq_struct]
theorem neq_diff (x y : K.It) (h : x ≠ y) (W : World) : (binOp .neq 31 (.agg (itA x)) (.agg (itA y))).run Tryd.prog W = .ok (.bool true) W := by
  obtain ⟨xk, xn, xs⟩ := x
  obtain ⟨yk, yn, ys⟩ := y
  unfold itA
  dsimp only
  by_cases h1 : xk = yk
  · subst h1
    by_cases h2 : xn = yn
    · subst h2
      have h3 : xs.toList ≠ ys.toList := fun e => h (by rw [bytes_eq e])
      simp [go_sem, run_neq_struct, h3]
    · simp [go_sem, run_neq_struct, h2]
  · simp [go_sem, run_neq_struct, h1]
theorem guard_item (op : BinOp) (x y : Operand) (a b : Array Value) (W : World) : (eqGuard op 31 x y (.agg a) (.agg b)).run Tryd.prog W = .ok () W := run_eqGuard_agg (P := Tryd.prog) W op _ x y a b (by kernel_rfl)
/-- what Same answers -/
def SameOut (l m : List K.It) (e : Ending) : Prop := (l = m ∧ e = .returned (.bool true)) ∨ (l ≠ m ∧ e = .returned (.bool false))
theorem load_itemN {w : World} {b o : Nat} {x : K.It} (h0 : w.cell? ⟨b, o, none⟩ = some (.int .i64 x.k)) (h1 : w.cell? ⟨b, o + 1, none⟩ = some (.int .i64 x.n)) (h2 : w.cell? ⟨b, o + 2, none⟩ = some (.string x.s)) (n : Nat) :
    (Instr.loadAt 31 (.pointer (some ⟨b, o, none⟩))).run Tryd.prog (w.drewN n) = .ok (.agg (itA x)) (w.drewN n) := load_item (w := w.drewN n) h0 h1 h2

set_option maxRecDepth 100000 in
set_option maxHeartbeats 1600000 in
theorem same_any (A A' : Option Addr) (l m : List K.It) (c c' B B' : Nat) (w : World) (hx : RdI w B A l) (hy : RdI w B' A' m) (hlc : l.length ≤ c) (hcm : c ≤ maxLen) (hlc' : m.length ≤ c') (hcm' : c' ≤ maxLen) :
    Calls Tryd.prog 10 #[.slice A l.length c, .slice A' m.length c'] w fun e w' => SameOut l m e ∧ ∃ nq, w' = w.drewN nq := by
  unfold maxLen at hcm hcm'
  by_cases hlm : l.length = m.length
  · obtain ⟨n, hn⟩ : ∃ n, n = l.length := ⟨_, rfl⟩
    have hn' : n = m.length := by omega
    rw [← hn] at hlc ⊢
    rw [← hn'] at hlc' ⊢
    have HN := Lib.hid hn
    have HN' := Lib.hid hn'
    have HX := Lib.hid hx
    have HY := Lib.hid hy
    clear hn hn' hx hy hlm
    go_enter Tryd.func10, Tryd.ntmps10
    go_wp2_with fail
    go_loopw [5] (fun x wr => ∃ (k d : Nat), x = .int .i64 k ∧ k ≤ n ∧ Hid (∀ j, j < k → l[j]? = m[j]?) ∧ Hid (wr = w.drewN d)) (fun x _ => n - (intOf x).toNat)
    case atStart => exact ⟨0, 0, rfl, by omega, Lib.hid (fun j hj => absurd hj (by omega)), Lib.hid rfl⟩
    case round =>
      obtain ⟨k, d, rfl, hk, E1, hw⟩ := hrel
      obtain rfl := hw.out
      by_cases hlt : k < n
      · obtain ⟨x, hxk⟩ : ∃ x, l[k]? = some x := ⟨_, List.getElem?_eq_getElem (by rw [← HN.out]; exact hlt)⟩
        obtain ⟨y, hyk⟩ : ∃ y, m[k]? = some y := ⟨_, List.getElem?_eq_getElem (by rw [← HN'.out]; exact hlt)⟩
        obtain ⟨b, o, hA, hb, c0, c1, c2⟩ := HX.out k x hxk
        obtain ⟨b', o', hA', hb', d0, d1, d2⟩ := HY.out k y hyk
        subst hA
        subst hA'
        have HXK := Lib.hid hxk
        have HYK := Lib.hid hyk
        have i2 : (k : Int) < (n : Int) := by omega
        clear hxk hyk
        obtain ⟨xk, xn, xs⟩ := x
        obtain ⟨yk, yn, ys⟩ := y
        dsimp only at c0 c1 c2 d0 d1 d2
        by_cases hxy : (⟨xk, xn, xs⟩ : K.It) = ⟨yk, yn, ys⟩
        · injection hxy with h1 h2 h3
          subst h1; subst h2; subst h3
          have N1 := neq_same ⟨xk, xn, xs⟩
          unfold itA at N1
          dsimp only at N1
          go_wp2_with fail
          go_quiet (fail)
          go_wp2_with fail
          go_roundw
          case rel =>
            refine ⟨k + 1, d + nq, by go_num, by omega, Lib.hid fun j hj => ?_, Lib.hid (by simp [World.drewN_drewN])⟩
            by_cases e : j = k
            · rw [e, HXK.out, HYK.out]
            · exact E1.out j (by omega)
          case measure => simp [intOf]; omega
        · have N1 := neq_diff _ _ hxy
          unfold itA at N1
          dsimp only at N1
          have HNE : Hid (l ≠ m) := Lib.hid fun e => hxy (by have h := HXK.out; rw [e, HYK.out] at h; injection h with h; exact h.symm)
          clear hxy
          go_wp2_with fail
          go_quiet (fail)
          go_wp2_with fail
          go_ret
          exact ⟨.inr ⟨HNE.out, rfl⟩, d + nq, by simp [World.drewN_drewN]⟩
      · have i2 : (n : Int) ≤ (k : Int) := by omega
        have HE : Hid (l = m) := Lib.hid (List.ext_getElem? fun j => by
          by_cases hj : j < k
          · exact E1.out j hj
          · rw [List.getElem?_eq_none (by rw [← HN.out]; omega), List.getElem?_eq_none (by rw [← HN'.out]; omega)])
        go_wp2_with fail
        go_ret
        exact ⟨.inl ⟨HE.out, rfl⟩, d, rfl⟩
  · have t1 : ((l.length : Int) != (m.length : Int)) = true := by simp; omega
    have HNE : Hid (l ≠ m) := Lib.hid fun e => hlm (by rw [e])
    clear hlm
    go_enter Tryd.func10, Tryd.ntmps10
    go_wp2_with fail
    go_ret
    exact ⟨.inr ⟨HNE.out, rfl⟩, 0, rfl⟩
theorem same_yes (A A' : Option Addr) (l : List K.It) (c c' B B' : Nat) (w : World) (hx : RdI w B A l) (hy : RdI w B' A' l) (hlc : l.length ≤ c) (hcm : c ≤ maxLen) (hlc' : l.length ≤ c') (hcm' : c' ≤ maxLen) (n : Nat) :
    Calls Tryd.prog 10 #[.slice A l.length c, .slice A' l.length c'] (w.drewN n) fun e w' => e = .returned (.bool true) ∧ ∃ m, w' = (w.drewN n).drewN m :=
  (same_any A A' l l c c' B B' (w.drewN n) hx hy hlc hcm hlc' hcm').mono fun e w' ⟨h, k⟩ => ⟨by rcases h with ⟨_, h⟩ | ⟨h, _⟩; exact h; exact absurd rfl h, k⟩
theorem same_no (A A' : Option Addr) (l m : List K.It) (c c' B B' : Nat) (w : World) (hx : RdI w B A l) (hy : RdI w B' A' m) (hlc : l.length ≤ c) (hcm : c ≤ maxLen) (hlc' : m.length ≤ c') (hcm' : c' ≤ maxLen) (hne : l ≠ m) (n : Nat) :
    Calls Tryd.prog 10 #[.slice A l.length c, .slice A' m.length c'] (w.drewN n) fun e w' => e = .returned (.bool false) ∧ ∃ m, w' = (w.drewN n).drewN m :=
  (same_any A A' l m c c' B B' (w.drewN n) hx hy hlc hcm hlc' hcm').mono fun e w' ⟨h, k⟩ => ⟨by rcases h with ⟨h, _⟩ | ⟨_, h⟩; exact absurd h hne; exact h, k⟩
end Go.Proofs.YtllglgkphlkopaaDoor
