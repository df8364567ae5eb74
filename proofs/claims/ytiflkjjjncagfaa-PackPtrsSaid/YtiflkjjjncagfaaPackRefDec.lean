/-
  'hoardref05.DocDecode' by contract. Conditions: a text.
-/
import Derived.Test.YtiflkjjjncagfaaPackRefNum
namespace Go.Proofs.Ytiflkjjjncagfaa
open Go Go.RowKit
set_option linter.unusedVariables false

theorem str_full {s : ByteArray} {b0 : Nat} {r : List Nat} (hs : K.sb s = b0 :: r) : s.toList ≠ [] ∧ s.toList.isEmpty = false ∧ (!s.toList.isEmpty) = true := by
  have h : s.toList ≠ [] := by
    intro e
    have h2 : s.data.toList = [] := by rw [← ByteArray.toList_eq]; exact e
    unfold K.sb at hs
    rw [h2] at hs
    cases hs
  exact ⟨h, by simpa using h, by simpa using h⟩
theorem below_drew2 {b : Nat} {w w' : World} (h : Below b w w') (n : Nat) : Below b w (w'.drewN n) := ⟨h.os, h.tape, h.output, h.size, h.block⟩
set_option maxRecDepth 100000 in
set_option maxHeartbeats 3200000 in
theorem docDecode_any (L : List Nat) (w : World) (hL : ∀ x ∈ L, x < 256) (hsz : L.length ≤ maxLen) :
    Calls Try.prog 11 #[.string (K.txt L)] w fun e w' => DecOut L w.heap.size e w' ∧ Below w.heap.size w w' := by
  have HL := Lib.hid hL
  have HSZ := Lib.hid hsz
  clear hL hsz
  go_enter Try.func11, Try.ntmps11
  go_wp2_with fail
  go_loopw [0, 4] (fun x y wr => ∃ (R : List Nat) (l : List K.It), x = .string (K.txt R) ∧ l.length ≤ 2000 ∧ Hid (R.length ≤ L.length) ∧ Hid (∀ b ∈ R, b < 256) ∧ Hid ((K.decs (2000 - l.length) R).map (l ++ ·) = K.decs 2000 L) ∧ Hid (OwnI wr w.heap.size y l) ∧ Hid (Below w.heap.size w wr)) (fun x _ _ => match x with | .string s => s.size | _ => 0)
  case atStart => exact ⟨L, [], rfl, by simp, Lib.hid (Nat.le_refl _), HL, Lib.hid (by simp), Lib.hid (OwnI.nil _ _), Lib.hid (Below.refl _ _)⟩
  case round =>
    obtain ⟨R, l, rfl, hl, HRL, HLR, E1, O1, L1⟩ := hrel
    have hs := L1.out.size
    obtain ⟨A4, c4, hv4, hc4, hm4, _⟩ := O1.out.shape
    subst hv4
    cases R with
    | nil =>
      have E2 : Hid (K.decs 2000 L = some l) := Lib.hid (by rw [← E1.out, decs_nil]; simp)
      clear E1
      rw [show K.txt [] = ⟨#[]⟩ from rfl]
      go_wp2_with fail
      go_ret2
      exact ⟨.inr ⟨l, _, E2.out, rfl, O1.out⟩, L1.out⟩
    | cons b0 r =>
      have hr256 : ∀ x ∈ r, x < 256 := fun x hx => HLR.out x (by simp [hx])
      have hb0 := HLR.out b0 (by simp)
      have hrl : r.length + 1 ≤ L.length := HRL.out
      have hNU := number_any (K.txt r)
      rw [K.sb_txt hr256] at hNU
      have hzr : (K.txt r).size ≤ maxLen := by rw [K.txt_size]; have := HSZ.out; omega
      have NU := Lib.hid fun W => hNU W hzr
      obtain ⟨s, hS⟩ : ∃ s, s = K.txt (b0 :: r) := ⟨_, rfl⟩
      have hsb : K.sb s = b0 :: r := by rw [hS]; exact K.sb_txt HLR.out
      have hss : s.size = r.length + 1 := by rw [hS, K.txt_size]; rfl
      rw [← hS]
      obtain ⟨f1, f2, f3⟩ := str_full hsb
      have HI := index_sb s 0 b0 (by rw [hsb]; rfl)
      rw [show ((0 : Nat) : Int) = 0 from rfl] at HI
      have HS1 := slice_strFrom s 1 1 rfl (by omega)
      rw [hsb, show (b0 :: r).drop 1 = r from rfl] at HS1
      have HSB := Lib.hid hsb
      have HSS := Lib.hid hss
      have HR256 := Lib.hid hr256
      have i0 : (1 : Int) ≤ (s.size : Int) := by omega
      clear hS hsb hss hNU hzr hr256
      go_wp2_with fail
      refine (NU.out _).mono ?_
      rintro e w2 ⟨hnum, nq, hw2⟩
      have L2 : Hid (Below w.heap.size w w2) := Lib.hid (by rw [hw2]; exact below_drew2 L1.out nq)
      have O2 : Hid (OwnI w2 w.heap.size (.slice A4 l.length c4) l) := Lib.hid (by rw [hw2]; exact O1.out)
      have hs2 := L2.out.size
      clear hw2 O1 L1
      unfold NumOut at hnum
      have fail2 : K.takeI (b0 :: r) = none → Hid (K.decs 2000 L = none) := fun hq => Lib.hid (by rw [← E1.out, decs_none hq]; rfl)
      rcases hnum with ⟨hq, rfl⟩ | ⟨v, k, hq, hv, hk0, hk, he⟩
      · have E2 := fail2 (by rw [takeI_cons, hq]; rfl)
        clear E1 hq fail2
        go_wp2_with fail
        go_ret2
        exact ⟨.inl ⟨E2.out, rfl⟩, L2.out⟩
      · obtain ⟨r', hr'⟩ : ∃ r', r' = r.drop k := ⟨_, rfl⟩
        rw [← hr'] at hq he
        have hl' : r'.length = r.length - k := by rw [hr', List.length_drop]
        have HR' : Hid (∀ x ∈ r', x < 256) := Lib.hid (by rw [hr']; exact fun x hx => HR256.out x (List.mem_of_mem_drop hx))
        have HQ : Hid (K.takeI (b0 :: r) = K.pickI b0 (some (v, r'))) := Lib.hid (by rw [takeI_cons, hq])
        obtain ⟨st, hst⟩ : ∃ st, st = K.txt r' := ⟨_, rfl⟩
        rw [← hst] at he
        have HST := Lib.hid hst
        have hsq : st.size = r'.length := by rw [hst, K.txt_size]
        have HSQ := Lib.hid hsq
        have HL' := Lib.hid hl'
        have FAIL2 := Lib.hid fail2
        have hsm : st.size ≤ 9223372036854775807 := by have := HSZ.out; unfold maxLen at this; omega
        clear hq hr' hl' hst hsq fail2
        subst he
        by_cases hl20 : l.length = 2000
        · have E2 : Hid (K.decs 2000 L = none) := Lib.hid (by rw [← E1.out, hl20]; rfl)
          have t1 : ((l.length : Int) == 2000) = true := by simp; omega
          clear E1 hl20
          by_cases h1 : b0 = 1
          · subst h1
            go_wp2_with fail
            go_ret2
            exact ⟨.inl ⟨E2.out, rfl⟩, L2.out⟩
          · have u1 : ((b0 : Int) == 1) = false := by simp; omega
            have u2 : ((b0 : Int) != 1) = true := by simp; omega
            by_cases h2 : b0 = 2
            · subst h2
              clear h1
              go_wp2_with fail
              go_ret2
              exact ⟨.inl ⟨E2.out, rfl⟩, L2.out⟩
            · have u3 : ((b0 : Int) == 2) = false := by simp; omega
              have u4 : ((b0 : Int) != 2) = true := by simp; omega
              clear h1 h2
              go_wp2_with fail
              go_ret2
              exact ⟨.inl ⟨E2.out, rfl⟩, L2.out⟩
        have t1 : ((l.length : Int) == 2000) = false := by simp; omega
        have hll : l.length < 2000 := by omega
        clear hl20
        have step : ∀ (x : K.It) (R' : List Nat), K.takeI (b0 :: r) = some (x, R') → Hid ((K.decs (2000 - (l ++ [x]).length) R').map ((l ++ [x]) ++ ·) = K.decs 2000 L) := fun x R' hq => Lib.hid (by
          rw [← E1.out, show 2000 - l.length = (2000 - (l ++ [x]).length) + 1 by simp; omega, decs_some hq, Option.map_map]
          congr 1
          · funext t
            simp)
        have STEP := Lib.hid step
        clear step E1
        by_cases h1 : b0 = 1
        · subst h1
          by_cases hp : v % 2 = 0
          · have p1 : (v : Int) % 2 = 0 := by omega
            have HU : (v : Int) / 2 = K.unf v := by unfold K.unf; rw [if_pos hp]; omega
            have hux := K.unf_bounds hv
            obtain ⟨xn, hxn⟩ : ∃ xn, xn = K.unf v := ⟨_, rfl⟩
            rw [← hxn] at HU hux
            have HXN := Lib.hid hxn
            clear hxn hp
            have E5 := STEP.out ⟨1, xn, ⟨#[]⟩⟩ r' (by rw [HQ.out, K.pickI_some, if_pos rfl, ← HXN.out])
            have O3 : Hid (OwnI (w2.alloc (.cells #[.int .i64 1, .int .i64 xn, .string ⟨#[]⟩] 43)) w.heap.size (.slice A4 l.length c4) l) := Lib.hid (O2.out.alloc _)
            have N3 := Lib.hid (item_new w2 ⟨1, xn, ⟨#[]⟩⟩)
            have L3 : Hid (Below w.heap.size w (w2.alloc (.cells #[.int .i64 1, .int .i64 xn, .string ⟨#[]⟩] 43))) := Lib.hid (L2.out.alloc hs2 _)
            have hs3 : w.heap.size ≤ (w2.alloc (.cells #[.int .i64 1, .int .i64 xn, .string ⟨#[]⟩] 43)).heap.size := by simp; omega
            go_wp2_with ((refine wpList_append_item rfl (.tmp 47) (.tmp 50) rfl rfl rfl (m := [⟨1, xn, ⟨#[]⟩⟩]) rfl O3.out N3.out (by simp; omega) hs3 ?_); intro v4 w4 ho4 hg4 he4; refine of_hid ?_)
            refine Lib.hid ?_
            have L4 : Hid (Below w.heap.size w w4) := Lib.hid (L3.out.trans ⟨hg4.os, hg4.tape, hg4.output, hg4.size, fun k hk => hg4.block k (by omega) fun e => by have := (O3.out.lt _ e.symm).1; omega⟩)
            have O4 := Lib.hid ho4
            clear ho4 hg4 he4 O3 N3 L3
            go_wp2_with fail
            go_roundw
            case rel => exact ⟨r', l ++ [⟨1, xn, ⟨#[]⟩⟩], by first | rfl | rw [HST.out], by simp; omega, Lib.hid (by have := HL'.out; omega), HR', E5, O4, L4⟩
            case measure =>
              have h1 := HSS.out
              have h2 := HSQ.out
              have h3 := HL'.out
              simp [K.txt_size] at *
              omega
          · have p1 : (v : Int) % 2 = 1 := by omega
            have HU : -((v : Int) / 2) - 1 = K.unf v := by unfold K.unf; rw [if_neg hp]; omega
            have hux := K.unf_bounds hv
            obtain ⟨xn, hxn⟩ : ∃ xn, xn = K.unf v := ⟨_, rfl⟩
            rw [← hxn] at HU hux
            have HXN := Lib.hid hxn
            clear hxn hp
            have E5 := STEP.out ⟨1, xn, ⟨#[]⟩⟩ r' (by rw [HQ.out, K.pickI_some, if_pos rfl, ← HXN.out])
            have O3 : Hid (OwnI (w2.alloc (.cells #[.int .i64 1, .int .i64 xn, .string ⟨#[]⟩] 43)) w.heap.size (.slice A4 l.length c4) l) := Lib.hid (O2.out.alloc _)
            have N3 := Lib.hid (item_new w2 ⟨1, xn, ⟨#[]⟩⟩)
            have L3 : Hid (Below w.heap.size w (w2.alloc (.cells #[.int .i64 1, .int .i64 xn, .string ⟨#[]⟩] 43))) := Lib.hid (L2.out.alloc hs2 _)
            have hs3 : w.heap.size ≤ (w2.alloc (.cells #[.int .i64 1, .int .i64 xn, .string ⟨#[]⟩] 43)).heap.size := by simp; omega
            go_wp2_with ((refine wpList_append_item rfl (.tmp 47) (.tmp 50) rfl rfl rfl (m := [⟨1, xn, ⟨#[]⟩⟩]) rfl O3.out N3.out (by simp; omega) hs3 ?_); intro v4 w4 ho4 hg4 he4; refine of_hid ?_)
            refine Lib.hid ?_
            have L4 : Hid (Below w.heap.size w w4) := Lib.hid (L3.out.trans ⟨hg4.os, hg4.tape, hg4.output, hg4.size, fun k hk => hg4.block k (by omega) fun e => by have := (O3.out.lt _ e.symm).1; omega⟩)
            have O4 := Lib.hid ho4
            clear ho4 hg4 he4 O3 N3 L3
            go_wp2_with fail
            go_roundw
            case rel => exact ⟨r', l ++ [⟨1, xn, ⟨#[]⟩⟩], by first | rfl | rw [HST.out], by simp; omega, Lib.hid (by have := HL'.out; omega), HR', E5, O4, L4⟩
            case measure =>
              have h1 := HSS.out
              have h2 := HSQ.out
              have h3 := HL'.out
              simp [K.txt_size] at *
              omega
        · have u1 : ((b0 : Int) == 1) = false := by simp; omega
          have u2 : ((b0 : Int) != 1) = true := by simp; omega
          by_cases h2 : b0 = 2
          · subst h2
            by_cases h3 : v ≤ 4000
            · have j1 : (v : Int) ≤ 4000 := by omega
              by_cases h4 : v ≤ st.size
              · have j2 : (v : Int) ≤ (st.size : Int) := by omega
                have S2 := slice_strToU st v h4
                have S3 := slice_strFromU st v h4
                have hst2 : K.sb st = r' := by rw [HST.out]; exact K.sb_txt HR'.out
                rw [hst2] at S2 S3
                have hq5 : K.takeI (2 :: r) = some (⟨2, 0, K.txt (r'.take v)⟩, r'.drop v) := by rw [HQ.out, K.pickI_some, if_neg h1, if_pos ⟨rfl, h3, by rw [← HSQ.out]; exact h4⟩]
                obtain ⟨tt, htt⟩ : ∃ tt, tt = K.txt (r'.take v) := ⟨_, rfl⟩
                rw [← htt] at S2 hq5
                have HQ5 := Lib.hid hq5
                clear hst2 htt hq5 h1 h3
                have E5 := STEP.out ⟨2, 0, tt⟩ (r'.drop v) (by rw [HQ5.out])
                have O3 : Hid (OwnI (w2.alloc (.cells #[.int .i64 2, .int .i64 0, .string tt] 43)) w.heap.size (.slice A4 l.length c4) l) := Lib.hid (O2.out.alloc _)
                have N3 := Lib.hid (item_new w2 ⟨2, 0, tt⟩)
                have L3 : Hid (Below w.heap.size w (w2.alloc (.cells #[.int .i64 2, .int .i64 0, .string tt] 43))) := Lib.hid (L2.out.alloc hs2 _)
                have hs3 : w.heap.size ≤ (w2.alloc (.cells #[.int .i64 2, .int .i64 0, .string tt] 43)).heap.size := by simp; omega
                go_wp2_with ((refine wpList_append_item rfl (.tmp 62) (.tmp 67) rfl rfl rfl (m := [⟨2, 0, tt⟩]) rfl O3.out N3.out (by simp; omega) hs3 ?_); intro v4 w4 ho4 hg4 he4; refine of_hid ?_)
                refine Lib.hid ?_
                have L4 : Hid (Below w.heap.size w w4) := Lib.hid (L3.out.trans ⟨hg4.os, hg4.tape, hg4.output, hg4.size, fun k hk => hg4.block k (by omega) fun e => by have := (O3.out.lt _ e.symm).1; omega⟩)
                have O4 := Lib.hid ho4
                clear ho4 hg4 he4 O3 N3 L3
                go_wp2_with fail
                go_roundw
                case rel => exact ⟨(r'.drop v), l ++ [⟨2, 0, tt⟩], by first | rfl | rw [HST.out], by simp; omega, Lib.hid (by have := HL'.out; rw [List.length_drop]; omega), (Lib.hid fun x hx => HR'.out x (List.mem_of_mem_drop hx)), E5, O4, L4⟩
                case measure =>
                  have h1 := HSS.out
                  have h2 := HSQ.out
                  have h3 := HL'.out
                  simp [K.txt_size] at *
                  omega
              · have j2 : (st.size : Int) < (v : Int) := by omega
                have E2 := FAIL2.out (by rw [HQ.out, K.pickI_some, if_neg h1, if_neg (fun h => h4 (by have := h.2.2; rw [← HSQ.out] at this; exact this))])
                clear h1 h3
                go_wp2_with fail
                go_ret2
                exact ⟨.inl ⟨E2.out, rfl⟩, L2.out⟩
            · have j1 : (4000 : Int) < (v : Int) := by omega
              have E2 := FAIL2.out (by rw [HQ.out, K.pickI_some, if_neg h1, if_neg (fun h => h3 h.2.1)])
              clear h1 h3
              go_wp2_with fail
              go_ret2
              exact ⟨.inl ⟨E2.out, rfl⟩, L2.out⟩
          · have u3 : ((b0 : Int) == 2) = false := by simp; omega
            have u4 : ((b0 : Int) != 2) = true := by simp; omega
            have E2 := FAIL2.out (by rw [HQ.out, K.pickI_some, if_neg h1, if_neg (fun h => h2 h.1)])
            clear h1 h2
            go_wp2_with fail
            go_ret2
            exact ⟨.inl ⟨E2.out, rfl⟩, L2.out⟩
end Go.Proofs.Ytiflkjjjncagfaa
