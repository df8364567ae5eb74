/-
  'hoardref05.Check' and 'hoardref05.DocEncode' by contracts. Conditions: a list that reads as items.
-/
import Derived.Test.YtiflkjjjncagfaaPackRefEnc
namespace Go.Proofs.Ytiflkjjjncagfaa
open Go Go.RowKit
set_option linter.unusedVariables false

theorem flt_mem_big : ∀ (r : Int) (l : List K.It) (x : K.It), x ∈ l → K.big x = true → K.flt r l = 14
  | r, [], x, h, _ => by simp at h
  | r, y :: l, x, h, hb => by
    unfold K.flt
    by_cases hy : K.big y = true
    · rw [if_pos hy]
    · rw [if_neg hy]
      rcases List.mem_cons.1 h with rfl | h
      · exact absurd hb hy
      · exact flt_mem_big _ l x h hb
theorem flt_two_eq : ∀ (l : List K.It), (∀ x ∈ l, K.big x = false) → K.flt 2 l = 2
  | [], _ => rfl
  | y :: l, h => by
    unfold K.flt
    rw [if_neg (by rw [h y (by simp)]; simp)]
    have := flt_two_eq l fun x hx => h x (by simp [hx])
    split <;> exact this
theorem flt_unformed : ∀ (l : List K.It), (∀ x ∈ l, K.big x = false) → (∃ x ∈ l, K.formed x = false) → K.flt 0 l = 2
  | [], _, h => by obtain ⟨x, hx, _⟩ := h; simp at hx
  | y :: l, h, ⟨x, hx, hf⟩ => by
    unfold K.flt
    rw [if_neg (by rw [h y (by simp)]; simp)]
    have hl : ∀ z ∈ l, K.big z = false := fun z hz => h z (by simp [hz])
    by_cases hy : K.formed y = true
    · rw [if_pos hy]
      rcases List.mem_cons.1 hx with rfl | hx
      · rw [hy] at hf; cases hf
      · exact flt_unformed l hl ⟨x, hx, hf⟩
    · rw [if_neg hy]
      exact flt_two_eq l hl

set_option maxRecDepth 100000 in
set_option maxHeartbeats 3200000 in
theorem check_any (A : Option Addr) (l : List K.It) (c B : Nat) (w : World) (hx : RdI w B A l) (hg : ∀ x ∈ l, Good x) (hlc : l.length ≤ c) (hcm : c ≤ maxLen) :
    Calls Try.prog 18 #[.slice A l.length c] w fun e w' => e = .returned (.int .i64 (K.fault l)) ∧ w = w' := by
  obtain ⟨n, hn⟩ : ∃ n, n = l.length := ⟨_, rfl⟩
  rw [← hn] at hlc ⊢
  have HN := Lib.hid hn
  have HX := Lib.hid hx
  have HG := Lib.hid hg
  unfold maxLen at hcm
  clear hn hx hg
  by_cases hbig : 2000 < n
  · have HF : K.fault l = 14 := by unfold K.fault; rw [if_pos (by rw [← HN.out]; exact hbig)]
    rw [HF]
    have t1 : (2000 : Int) < (n : Int) := by omega
    go_enter Try.func18, Try.ntmps18
    go_wp2
    go_ret
    exact ⟨rfl, rfl⟩
  have HF : Hid (K.fault l = K.flt 0 l) := Lib.hid (by unfold K.fault; rw [if_neg (by rw [← HN.out]; exact hbig)])
  have t1 : (n : Int) ≤ 2000 := by omega
  clear hbig
  rw [HF.out]
  go_enter Try.func18, Try.ntmps18
  go_wp2_with fail
  go_loop [3] (fun x => ∃ (k : Nat), x = .int .i64 k ∧ k ≤ n ∧ Hid (∀ j x, j < k → l[j]? = some x → K.big x = false)) (fun x => n - (intOf x).toNat)
  case atStart => exact ⟨0, rfl, by omega, Lib.hid (fun j x hj => absurd hj (by omega))⟩
  case round =>
    obtain ⟨k, rfl, hk, E1⟩ := hrel
    by_cases hlt : k < n
    · obtain ⟨x, hxk⟩ : ∃ x, l[k]? = some x := ⟨_, List.getElem?_eq_getElem (by rw [← HN.out]; exact hlt)⟩
      have HXK := Lib.hid hxk
      have HM := Lib.hid (List.mem_of_getElem? hxk)
      obtain ⟨b, o, hA, hb, c0, c1, c2⟩ := HX.out k x hxk
      have hz := (HG.out x HM.out).2
      subst hA
      unfold maxLen at hz
      clear hxk c1
      obtain ⟨xk, xn, xs⟩ := x
      dsimp only at c0 c2 hz
      have i2 : (k : Int) < (n : Int) := by omega
      by_cases hk2 : xk = 2
      · have t2 : (xk == 2) = true := by simpa using hk2
        by_cases hs : 4000 < xs.size
        · have i3 : (4000 : Int) < (xs.size : Int) := by omega
          have E2 : Hid (K.flt 0 l = 14) := Lib.hid (flt_mem_big 0 l _ HM.out (by simp [K.big, hk2, hs]))
          clear hk2 hs
          go_wp2_with fail
          go_ret
          exact ⟨by rw [E2.out]; rfl, rfl⟩
        · have i3 : (xs.size : Int) ≤ 4000 := by omega
          have E2 : Hid (K.big ⟨xk, xn, xs⟩ = false) := Lib.hid (by simp [K.big]; omega)
          clear hk2 hs
          go_wp2_with fail
          go_round
          case rel =>
            refine ⟨k + 1, by go_num, by omega, Lib.hid fun j y hj hy => ?_⟩
            by_cases e : j = k
            · rw [e, HXK.out] at hy; injection hy with hy; rw [← hy]; exact E2.out
            · exact E1.out j y (by omega) hy
          case measure => simp [intOf]; omega
      · have t2 : (xk == 2) = false := by simpa using hk2
        have E2 : Hid (K.big ⟨xk, xn, xs⟩ = false) := Lib.hid (by simp [K.big, hk2])
        clear hk2
        go_wp2_with fail
        go_round
        case rel =>
          refine ⟨k + 1, by go_num, by omega, Lib.hid fun j y hj hy => ?_⟩
          by_cases e : j = k
          · rw [e, HXK.out] at hy; injection hy with hy; rw [← hy]; exact E2.out
          · exact E1.out j y (by omega) hy
        case measure => simp [intOf]; omega
    · have i2 : (n : Int) ≤ (k : Int) := by omega
      have NB : Hid (∀ x ∈ l, K.big x = false) := Lib.hid fun x hx => by
        obtain ⟨j, hj⟩ := List.mem_iff_getElem?.1 hx
        exact E1.out j x (by have := (List.getElem?_eq_some_iff.1 hj).1; have := HN.out; omega) hj
      clear E1
      go_wp2_with fail
      go_loop [4] (fun x => ∃ (k : Nat), x = .int .i64 k ∧ k ≤ n ∧ Hid (∀ j x, j < k → l[j]? = some x → K.formed x = true)) (fun x => n - (intOf x).toNat)
      case atStart => exact ⟨0, rfl, by omega, Lib.hid (fun j x hj => absurd hj (by omega))⟩
      case round =>
        obtain ⟨k', rfl, hk', E1⟩ := hrel
        by_cases hlt' : k' < n
        · obtain ⟨x, hxk⟩ : ∃ x, l[k']? = some x := ⟨_, List.getElem?_eq_getElem (by rw [← HN.out]; exact hlt')⟩
          have HXK := Lib.hid hxk
          have HM := Lib.hid (List.mem_of_getElem? hxk)
          obtain ⟨b, o, hA, hb, c0, c1, c2⟩ := HX.out k' x hxk
          subst hA
          clear hxk
          obtain ⟨xk, xn, xs⟩ := x
          dsimp only at c0 c1 c2
          have i3 : (k' : Int) < (n : Int) := by omega
          have good : K.formed ⟨xk, xn, xs⟩ = true → Hid (∀ j x, j < k' + 1 → l[j]? = some x → K.formed x = true) := fun hf => Lib.hid fun j y hj hy => by
            by_cases e : j = k'
            · rw [e, HXK.out] at hy; injection hy with hy; rw [← hy]; exact hf
            · exact E1.out j y (by omega) hy
          have badf : K.formed ⟨xk, xn, xs⟩ = false → Hid (K.flt 0 l = 2) := fun hf => Lib.hid (flt_unformed l NB.out ⟨_, HM.out, hf⟩)
          have GOODF := Lib.hid good
          have BADF := Lib.hid badf
          clear good badf
          by_cases h1 : xk = 1
          · subst h1
            by_cases hs : xs = ⟨#[]⟩
            · subst hs
              have EF := GOODF.out (by simp [K.formed])
              go_wp2_with fail
              go_round
              case rel => exact ⟨k' + 1, by go_num, by omega, EF⟩
              case measure => simp [intOf]; omega
            · have hs1 := str_ne hs
              have hs2 : xs.toList.isEmpty = false := by simpa using hs1
              have hs3 : (!xs.toList.isEmpty) = true := by simpa using hs1
              have EF := BADF.out (by simp [K.formed, hs])
              clear hs
              go_wp2_with fail
              go_ret
              exact ⟨by rw [EF.out]; rfl, rfl⟩
          · have t1 : (xk == 1) = false := by simpa using h1
            have t2 : (xk != 1) = true := by simpa using h1
            by_cases h2 : xk = 2
            · subst h2
              by_cases hn0 : xn = 0
              · subst hn0
                have EF := GOODF.out (by simp [K.formed])
                clear h1
                go_wp2_with fail
                go_round
                case rel => exact ⟨k' + 1, by go_num, by omega, EF⟩
                case measure => simp [intOf]; omega
              · have t3 : (xn == 0) = false := by simpa using hn0
                have t4 : (xn != 0) = true := by simpa using hn0
                have EF := BADF.out (by simp [K.formed, hn0])
                clear hn0 h1
                go_wp2_with fail
                go_ret
                exact ⟨by rw [EF.out]; rfl, rfl⟩
            · have t3 : (xk == 2) = false := by simpa using h2
              have t4 : (xk != 2) = true := by simpa using h2
              have EF := BADF.out (by simp [K.formed, h1, h2])
              clear h1 h2
              go_wp2_with fail
              go_ret
              exact ⟨by rw [EF.out]; rfl, rfl⟩
        · have i3 : (n : Int) ≤ (k' : Int) := by omega
          have E2 : Hid (K.flt 0 l = 0) := Lib.hid (K.flt_right l fun x hx => ⟨by
            obtain ⟨j, hj⟩ := List.mem_iff_getElem?.1 hx
            exact E1.out j x (by have := (List.getElem?_eq_some_iff.1 hj).1; have := HN.out; omega) hj, NB.out x hx⟩)
          clear E1
          go_wp2_with fail
          go_ret
          exact ⟨by rw [E2.out]; rfl, rfl⟩
end Go.Proofs.Ytiflkjjjncagfaa
