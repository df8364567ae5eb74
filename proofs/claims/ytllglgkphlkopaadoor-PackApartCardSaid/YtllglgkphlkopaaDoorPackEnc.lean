/-
  'pack.formed', 'pack.fault' and 'pack.Encode' by contracts. Conditions: a list that reads as items.
-/
import Derived.Test.YtllglgkphlkopaaDoorPackAdd
namespace Go.Proofs.YtllglgkphlkopaaDoor
open Go Go.RowKit
set_option linter.unusedVariables false

def itA (x : K.It) : Array Value := #[.int .i64 x.k, .int .i64 x.n, .string x.s]
/-- items that lie below block B -/
def RdI (w : World) (B : Nat) (A : Option Addr) (l : List K.It) : Prop :=
  ∀ j x, l[j]? = some x → ∃ b o, A = some ⟨b, o, none⟩ ∧ b < B ∧ w.cell? ⟨b, o + j * 3, none⟩ = some (.int .i64 x.k) ∧ w.cell? ⟨b, o + j * 3 + 1, none⟩ = some (.int .i64 x.n) ∧ w.cell? ⟨b, o + j * 3 + 2, none⟩ = some (.string x.s)
def Good (x : K.It) : Prop := K.Fits x ∧ x.s.size ≤ maxLen
theorem RdI.below {w w' : World} {B B' : Nat} {A : Option Addr} {l : List K.It} (h : RdI w B A l) (hb : Below B' w w') (hB : B ≤ B') : RdI w' B A l := by
  intro j x hx
  obtain ⟨b, o, h1, h2, h3, h4, h5⟩ := h j x hx
  exact ⟨b, o, h1, h2, (hb.cell (p := ⟨b, _, none⟩) (by show b < B'; omega)).trans h3, (hb.cell (p := ⟨b, _, none⟩) (by show b < B'; omega)).trans h4, (hb.cell (p := ⟨b, _, none⟩) (by show b < B'; omega)).trans h5⟩
theorem ret_bool {a b : Bool} (h : a = b) : Ending.returned (.bool a) = .returned (.bool b) := by rw [h]
theorem str_ne {s : ByteArray} (h : s ≠ ⟨#[]⟩) : s.toList ≠ [] := by
  intro e
  apply h
  obtain ⟨a⟩ := s
  rw [ByteArray.toList_eq] at e
  congr 1
  exact Array.toList_inj.1 e

set_option maxHeartbeats 400000 in
theorem formed_any (x : K.It) (w : World) :
    Calls Tryd.prog 18 #[.agg (itA x)] w fun e w' => e = .returned (.bool (K.formed x)) ∧ Below w.heap.size w w' := by
  obtain ⟨k, n, s⟩ := x
  unfold itA
  have L1 : Hid (Below w.heap.size w (w.alloc (.cells #[.int .i64 k, .int .i64 n, .string s] 31))) := Lib.hid ((Below.refl _ _).alloc (Nat.le_refl _) _)
  by_cases h1 : k = 1
  · subst h1
    by_cases hs : s = ⟨#[]⟩
    · subst hs
      go_enter Tryd.func18, Tryd.ntmps18
      go_wp2
      go_ret
      exact ⟨ret_bool rfl, L1.out⟩
    · have hs1 := str_ne hs
      have HF : K.formed ⟨1, n, s⟩ = false := by simp [K.formed, hs]
      rw [HF]
      go_enter Tryd.func18, Tryd.ntmps18
      go_wp2
      go_ret
      exact ⟨ret_bool (by simpa using hs1), L1.out⟩
  · by_cases h2 : k = 2
    · subst h2
      by_cases hn : n = 0
      · subst hn
        go_enter Tryd.func18, Tryd.ntmps18
        go_wp2
        go_ret
        exact ⟨ret_bool rfl, L1.out⟩
      · have HF : K.formed ⟨2, n, s⟩ = false := by simp [K.formed, hn]
        rw [HF]
        have t1 : (n == 0) = false := by simpa using hn
        go_enter Tryd.func18, Tryd.ntmps18
        go_wp2
        go_ret
        exact ⟨ret_bool rfl, L1.out⟩
    · have HF : K.formed ⟨k, n, s⟩ = false := by simp [K.formed, h1, h2]
      rw [HF]
      have t1 : (k == 1) = false := by simpa using h1
      have t2 : (k == 2) = false := by simpa using h2
      go_enter Tryd.func18, Tryd.ntmps18
      go_wp2
      go_ret
      exact ⟨ret_bool rfl, L1.out⟩
/-- an item of a list, loaded -/
theorem load_item {w : World} {b o : Nat} {x : K.It} (h0 : w.cell? ⟨b, o, none⟩ = some (.int .i64 x.k)) (h1 : w.cell? ⟨b, o + 1, none⟩ = some (.int .i64 x.n)) (h2 : w.cell? ⟨b, o + 2, none⟩ = some (.string x.s)) :
    (Instr.loadAt 31 (.pointer (some ⟨b, o, none⟩))).run Tryd.prog w = .ok (.agg (itA x)) w := by
  refine run_loadAt_mid (P := Tryd.prog) w b o 31 [.int .i64 x.k, .int .i64 x.n, .string x.s] _ (fun j v hj => ?_) Tryd.underlying31 rfl (by kernel_rfl)
  match j, hj with
  | 0, hj => simp at hj; subst hj; exact h0
  | 1, hj => simp at hj; subst hj; exact h1
  | 2, hj => simp at hj; subst hj; exact h2
theorem flt_snoc (l : List K.It) (r : Int) (k : Nat) (x : K.It) (h : l[k]? = some x) (hb : K.big x = false) : K.flt r (l.drop k) = K.flt (if K.formed x then r else 2) (l.drop (k + 1)) := by
  have hk := (List.getElem?_eq_some_iff.1 h).1
  have e : l.drop k = x :: l.drop (k + 1) := by
    rw [List.drop_eq_getElem_cons hk]
    congr 1
    exact (List.getElem?_eq_some_iff.1 h).2
  rw [e]
  show (if K.big x then (14 : Int) else _) = _
  rw [hb]
  rfl
theorem flt_big (l : List K.It) (r : Int) (k : Nat) (x : K.It) (h : l[k]? = some x) (hb : K.big x = true) : K.flt r (l.drop k) = 14 := by
  have hk := (List.getElem?_eq_some_iff.1 h).1
  have e : l.drop k = x :: l.drop (k + 1) := by
    rw [List.drop_eq_getElem_cons hk]
    congr 1
    exact (List.getElem?_eq_some_iff.1 h).2
  rw [e]
  show (if K.big x then (14 : Int) else _) = _
  rw [hb]
  rfl

set_option maxRecDepth 100000 in
set_option maxHeartbeats 1600000 in
theorem fault_any (A : Option Addr) (l : List K.It) (c B : Nat) (w : World) (hx : RdI w B A l) (hB : B ≤ w.heap.size) (hg : ∀ x ∈ l, Good x) (hlc : l.length ≤ c) (hcm : c ≤ maxLen) :
    Calls Tryd.prog 11 #[.slice A l.length c] w fun e w' => e = .returned (.int .i64 (K.fault l)) ∧ Below w.heap.size w w' := by
  obtain ⟨n, hn⟩ : ∃ n, n = l.length := ⟨_, rfl⟩
  rw [← hn] at hlc ⊢
  have HN := Lib.hid hn
  have HX := Lib.hid hx
  have HG := Lib.hid hg
  have HB := Lib.hid hB
  unfold maxLen at hcm
  clear hn hx hg hB
  by_cases hbig : 2000 < n
  · have HF : K.fault l = 14 := by unfold K.fault; rw [if_pos (by rw [← HN.out]; exact hbig)]
    rw [HF]
    have t1 : (2000 : Int) < (n : Int) := by omega
    go_enter Tryd.func11, Tryd.ntmps11
    go_wp2
    go_ret
    exact ⟨rfl, Below.refl _ _⟩
  have HF : Hid (K.fault l = K.flt 0 l) := Lib.hid (by unfold K.fault; rw [if_neg (by rw [← HN.out]; exact hbig)])
  have t1 : (n : Int) ≤ 2000 := by omega
  clear hbig
  rw [HF.out]
  go_enter Tryd.func11, Tryd.ntmps11
  go_wp2_with fail
  go_loopw [3, 11] (fun r x wr => ∃ (k : Nat) (y : Int), x = .int .i64 k ∧ k ≤ n ∧ r = .int .i64 y ∧ (y = 0 ∨ y = 2) ∧ Hid (K.flt y (l.drop k) = K.flt 0 l) ∧ Hid (Below w.heap.size w wr)) (fun _ x _ => n - (intOf x).toNat)
  case atStart => exact ⟨0, 0, rfl, by omega, rfl, .inl rfl, Lib.hid rfl, Lib.hid (Below.refl _ _)⟩
  case round =>
    obtain ⟨k, y, rfl, hk, rfl, hy, E1, L1⟩ := hrel
    by_cases hlt : k < n
    · obtain ⟨x, hxk⟩ : ∃ x, l[k]? = some x := ⟨_, List.getElem?_eq_getElem (by rw [← HN.out]; exact hlt)⟩
      have HXK := Lib.hid hxk
      have hgx := HG.out x (List.mem_of_getElem? hxk)
      obtain ⟨b, o, hA, hb, c0, c1, c2⟩ := (HX.out.below L1.out HB.out) k x hxk
      subst hA
      have ld := load_item c0 c1 c2
      have hz := hgx.2
      unfold maxLen at hz
      clear hxk c0 c1 c2 hgx
      obtain ⟨xk, xn, xs⟩ := x
      unfold itA at ld
      have i2 : (k : Int) < (n : Int) := by omega
      have LD := Lib.hid ld
      clear ld
      have hs := L1.out.size
      by_cases hk2 : xk = 2 ∧ 4000 < xs.size
      · obtain ⟨rfl, hk3⟩ := hk2
        have i3 : (4000 : Int) < (xs.size : Int) := by omega
        have E2 : Hid (K.flt 0 l = 14) := Lib.hid (by rw [← E1.out]; exact flt_big l y k _ HXK.out (by simp [K.big, hk3]))
        clear HXK HF E1 HG
        go_wp2_with (refine wpList_loadX rfl 31 (.tmp 13) rfl _ _ rfl LD.out ?_; refine of_hid ?_)
        refine Lib.hid ?_
        go_wp2_with fail
        go_ret
        exact ⟨by rw [E2.out]; rfl, L1.out.alloc hs _⟩
      · have HBG : K.big ⟨xk, xn, xs⟩ = false := by simp [K.big]; omega
        have E2 := flt_snoc l y k _ HXK.out HBG
        have L2 : Hid (Below w.heap.size w (wr.alloc (.cells #[.int .i64 xk, .int .i64 xn, .string xs] 31))) := Lib.hid (L1.out.alloc hs _)
        have hf := formed_any ⟨xk, xn, xs⟩
        unfold itA at hf
        obtain ⟨bb, hbb⟩ : ∃ bb, bb = K.formed ⟨xk, xn, xs⟩ := ⟨_, rfl⟩
        rw [← hbb] at hf E2
        have E3 := Lib.hid E2
        have HF2 := Lib.hid hf
        clear hf E2 hbb HXK HF HBG HG
        have hz3 : xk = 2 → (xs.size : Int) ≤ 4000 := by omega
        by_cases hk3 : xk = 2
        all_goals
          first | (obtain rfl := hk3; have hz4 := hz3 rfl) | (have hz4 : (xk == 2) = false := by simpa using hk3)
          clear hz3 hk2
          go_wp2_with (refine wpList_loadX rfl 31 (.tmp 13) rfl _ _ rfl LD.out ?_; refine of_hid ?_)
          refine Lib.hid ?_
          go_wp2_with fail
          refine (HF2.out _).mono ?_
          rintro e w3 ⟨rfl, hl3⟩
          have L3 : Hid (Below w.heap.size w w3) := Lib.hid (L2.out.trans (hl3.mono L2.out.size))
          clear hl3
          cases bb with
          | true =>
            go_wp2_with fail
            go_roundw
            case rel => exact ⟨k + 1, y, by go_num, by omega, rfl, hy, Lib.hid (by rw [← E1.out, E3.out]; rfl), L3⟩
            case measure => simp [intOf]; omega
          | false =>
            go_wp2_with fail
            go_roundw
            case rel => exact ⟨k + 1, 2, by go_num, by omega, rfl, .inr rfl, Lib.hid (by rw [← E1.out, E3.out]; rfl), L3⟩
            case measure => simp [intOf]; omega
    · have hkn : k = n := by omega
      have E2 : Hid (y = K.flt 0 l) := Lib.hid (by rw [← E1.out, List.drop_eq_nil_of_le (by rw [← HN.out, hkn]; exact Nat.le_refl _)]; rfl)
      have i2 : (n : Int) ≤ (k : Int) := by omega
      clear hkn
      go_wp2_with fail
      go_ret
      exact ⟨by rw [E2.out]; rfl, L1.out⟩
end Go.Proofs.YtllglgkphlkopaaDoor
