/-
  What stands in a rack behind appends, and which intents are told of it: plain words on states. No conditions beyond those that each theorem types.
-/
import Derived.Test.YtikenhcglbfgpaaDoorItnColl
namespace Go.Proofs.YtikenhcglbfgpaaDoor
open Go Go.RowKit refRack
set_option maxRecDepth 100000
set_option linter.unusedVariables false
namespace Itn
open Lab (wall cntW wall_succ cntW_succ wall_like why_of wall_holds sec sec_length sec_lst)
theorem putS_far (q0 b : Nat) (d a : Nat) : ∀ (l : List Pc) (s : RS) (k : Nat), a < q0 + k ∨ q0 + k + l.length ≤ a → (putS s q0 b k l).holds d a = s.holds d a
  | [], s, k, h => rfl
  | p :: l, s, k, h => by
    rw [List.length_cons] at h
    show (putS _ q0 b (k + 1) l).holds d a = _
    rw [putS_far q0 b d a l _ (k + 1) (by omega), wall_holds, if_neg (fun h2 => by omega)]
theorem putS_at (q0 b : Nat) (d : Nat) : ∀ (l : List Pc) (s : RS) (k i : Nat) (p : Pc), l[i]? = some p → d < s.nd → s.gone d = false → (putS s q0 b k l).holds d (q0 + (k + i)) = lst (pcL (b : Int) ((k + i : Nat) : Int) p)
  | [], s, k, i, p, h, _, _ => by cases h
  | x :: l, s, k, 0, p, h, hd, hg => by
    injection h with h
    subst h
    show (putS _ q0 b (k + 1) l).holds d (q0 + k) = _
    rw [putS_far q0 b d (q0 + k) l _ (k + 1) (.inl (by omega)), wall_holds, if_pos ⟨hd, hg, rfl⟩]
    rfl
  | x :: l, s, k, i + 1, p, h, hd, hg => by
    have hl := (wall_like s (q0 + k) (lst (pcL (b : Int) (k : Int) x)) s.nd).1
    have := putS_at q0 b d l (wall s (q0 + k) (lst (pcL (b : Int) (k : Int) x)) s.nd) (k + 1) i p h (by rw [hl.nd]; exact hd) (by rw [hl.gone]; exact hg)
    rw [show k + 1 + i = k + (i + 1) by omega] at this
    exact this
theorem wall_nw (s : RS) (q : Nat) (X : Nat → Nat) : ∀ k, (wall s q X k).nw = s.nw + cntW s k
  | 0 => rfl
  | k + 1 => by
    rw [wall_succ, cntW_succ]
    split
    · exact wall_nw s q X k
    · show (wall s q X k).nw + 1 = _
      rw [wall_nw s q X k]
      omega
theorem putS_nw (q0 b : Nat) : ∀ (l : List Pc) (s : RS) (k : Nat), (putS s q0 b k l).nw = s.nw + cntW s s.nd * l.length
  | [], s, k => by show s.nw = s.nw + cntW s s.nd * 0; omega
  | p :: l, s, k => by
    have hl := (wall_like s (q0 + k) (lst (pcL (b : Int) (k : Int) p)) s.nd).1
    show (putS _ q0 b (k + 1) l).nw = _
    rw [putS_nw q0 b l _ (k + 1), wall_nw, hl.nd, cntW_like hl, List.length_cons, Nat.mul_succ]
    omega
theorem cntW_all {s : RS} (h : ∀ d, s.gone d = false) : ∀ k, cntW s k = k
  | 0 => rfl
  | k + 1 => by rw [cntW_succ, if_neg (by rw [h]; decide), cntW_all h k]
/-- piece k stands, if drive 0 holds its bytes -/
theorem look_there {s : RS} {q : Nat} {b k : Int} {p : Pc} (hd : 0 < s.nd) (hg : s.gone 0 = false) (ho : OkI b k p) (h : ∀ j, j < 128 → s.holds 0 q j = lst (pcL b k p) j) : lookP s q b k = some p :=
  look_zero hd hg ⟨ho, list_ext_lst (by rw [sec_length, pcL_length ho]) fun j hj => by
    rw [sec_length] at hj
    rw [sec_lst _ _ _ _ hj, h j hj]⟩
theorem look_blank {s : RS} {q : Nat} {b k : Int} (h : ∀ d, s.holds d q 0 = 0) : lookP s q b k = none :=
  look_none fun d _ _ p hp => not_zero hp (by rw [sec_lst _ _ _ _ (by omega)]; exact h d)
/-- these pieces stand from number k on -/
def Stand (s : RS) (first b k : Nat) (ps : List Pc) : Prop := ∀ i p, ps[i]? = some p → lookP s (first + (k + i)) (b : Int) ((k + i : Nat) : Int) = some p
theorem col_cut (s : RS) (first b : Nat) : ∀ (f : Nat) (t : ByteArray) (k : Nat) (x : ByteArray) (out : List ByteArray) (u F : Nat), t.size ≤ f → Stand s first b k (cutF f t) → colF s first (b : Int) (F + (cutF f t).length) k x out u = colF s first (b : Int) F (k + (cutF f t).length) ⟨#[]⟩ (out ++ [x ++ t]) (k + (cutF f t).length)
  | 0, t, k, x, out, u, F, hf, hs => by
    have h := hs 0 ⟨true, t⟩ rfl
    exact colF_last h
  | f + 1, t, k, x, out, u, F, hf, hs => by
    by_cases hb : 56 < t.size
    · have hc : cutF (f + 1) t = ⟨false, t.extract 0 56⟩ :: cutF f (t.extract 56 t.size) := if_pos hb
      rw [hc] at hs ⊢
      have h := hs 0 _ rfl
      rw [Nat.add_zero] at h
      have hs2 : Stand s first b (k + 1) (cutF f (t.extract 56 t.size)) := fun i p hp => by
        have := hs (i + 1) p hp
        rw [show k + (i + 1) = k + 1 + i by omega] at this
        exact this
      have ih := col_cut s first b f (t.extract 56 t.size) (k + 1) (x ++ t.extract 0 56) out u F (by rw [ext_size _ _ _ (Nat.le_refl _)]; omega) hs2
      rw [List.length_cons, show F + ((cutF f (t.extract 56 t.size)).length + 1) = (F + (cutF f (t.extract 56 t.size)).length) + 1 by omega, colF_more h, ih]
      have e : x ++ t.extract 0 56 ++ t.extract 56 t.size = x ++ t := by
        rw [ByteArray.append_assoc, ← ByteArray.extract_eq_extract_append_extract 56 (by omega) (by omega), extract_all]
      rw [e, show k + 1 + (cutF f (t.extract 56 t.size)).length = k + ((cutF f (t.extract 56 t.size)).length + 1) by omega]
    · have hc : cutF (f + 1) t = [⟨true, t⟩] := if_neg hb
      rw [hc] at hs ⊢
      have h := hs 0 ⟨true, t⟩ rfl
      exact colF_last h
/-- whatever holds these pieces from number 0 on tells those texts first -/
def Tells (ps : List Pc) (have_ : List ByteArray) : Prop := ∀ (s : RS) (first b F : Nat), Stand s first b 0 ps → colF s first (b : Int) (F + ps.length) 0 ⟨#[]⟩ [] 0 = colF s first (b : Int) F ps.length ⟨#[]⟩ have_ ps.length
theorem tells_nil : Tells [] [] := fun s first b F _ => rfl
theorem empty_app (t : ByteArray) : (⟨#[]⟩ : ByteArray) ++ t = t := ByteArray.empty_append
theorem tells_app {ps : List Pc} {hv : List ByteArray} (h : Tells ps hv) (t : ByteArray) : Tells (ps ++ cutL t) (hv ++ [t]) := fun s first b F hs => by
  have h1 : Stand s first b 0 ps := fun i p hp => hs i p (by rw [List.getElem?_append_left (List.getElem?_eq_some_iff.1 hp).1]; exact hp)
  have h2 : Stand s first b ps.length (cutL t) := fun i p hp => by
    have := hs (ps.length + i) p (by rw [List.getElem?_append_right (by omega), show ps.length + i - ps.length = i by omega]; exact hp)
    rw [Nat.zero_add] at this
    exact this
  rw [List.length_append, show F + (ps.length + (cutL t).length) = (F + (cutL t).length) + ps.length by omega, h s first b _ h1]
  have := col_cut s first b t.size t ps.length ⟨#[]⟩ hv ps.length F (Nat.le_refl _) h2
  rw [empty_app] at this
  exact this
theorem colF_end {s : RS} {first b F k : Nat} {x : ByteArray} {out : List ByteArray} {u : Nat} (h : 0 < F → lookP s (first + k) (b : Int) (k : Int) = none) : colF s first (b : Int) F k x out u = (out, u) := by
  cases F with
  | zero => rfl
  | succ F => exact colF_none (h (by omega))
/-- a rack whose drives are all well, and whose sectors of the log hold these pieces and nothing else -/
structure LogR (s : RS) (first count b : Nat) (ps : List Pc) : Prop where
  calm : s.calm
  gone : ∀ d, s.gone d = false
  nd : 0 < s.nd
  len : ps.length ≤ count
  fit : ∀ p ∈ ps, p.s.size ≤ 56
  bb : b ≤ 1000000
  cc : count ≤ 1000000
  at_ : ∀ d i p, d < s.nd → ps[i]? = some p → s.holds d (first + i) = lst (pcL (b : Int) (i : Int) p)
  blank : ∀ d a, ps.length ≤ a → a < count → s.holds d (first + a) = zeros
theorem LogR.new (nd ns first count b : Nat) (h : 0 < nd) (hb : b ≤ 1000000) (hc : count ≤ 1000000) : LogR (RS.new nd ns) first count b [] :=
  ⟨⟨rfl, rfl⟩, fun _ => rfl, h, Nat.zero_le _, fun p hp => (by cases hp), hb, hc, fun d i p _ hp => (by cases hp), fun d a _ _ => rfl⟩
theorem LogR.app {s : RS} {first count b : Nat} {ps : List Pc} (h : LogR s first count b ps) (l : List Pc) (hl : ps.length + l.length ≤ count) (hf : ∀ p ∈ l, p.s.size ≤ 56) : LogR (putS s first b ps.length l) first count b (ps ++ l) := by
  obtain ⟨hk, _⟩ := putS_like first b l s ps.length
  refine ⟨hk.calm h.calm, fun d => by rw [hk.gone]; exact h.gone d, by rw [hk.nd]; exact h.nd, by rw [List.length_append]; exact hl, fun p hp => ?_, h.bb, h.cc, fun d i p hd hi => ?_, fun d a h1 h2 => ?_⟩
  · rcases List.mem_append.1 hp with hp | hp
    · exact h.fit p hp
    · exact hf p hp
  · rw [hk.nd] at hd
    by_cases hlt : i < ps.length
    · rw [List.getElem?_append_left hlt] at hi
      rw [putS_far first b d _ l s _ (.inl (by omega))]
      exact h.at_ d i p hd hi
    · rw [List.getElem?_append_right (by omega)] at hi
      have := putS_at first b d l s ps.length (i - ps.length) p hi hd (h.gone d)
      rw [show ps.length + (i - ps.length) = i by omega] at this
      exact this
  · rw [List.length_append] at h1
    rw [putS_far first b d _ l s _ (.inr (by omega))]
    exact h.blank d a (by omega) h2
theorem LogR.col {s : RS} {first count b : Nat} {ps : List Pc} {hv : List ByteArray} (h : LogR s first count b ps) (ht : Tells ps hv) : colF s first (b : Int) count 0 ⟨#[]⟩ [] 0 = (hv, ps.length) := by
  have hs : Stand s first b 0 ps := fun i p hp => by
    rw [Nat.zero_add]
    have hi := (List.getElem?_eq_some_iff.1 hp).1
    have hb := h.bb
    have hc := h.cc
    have hl := h.len
    exact look_there h.nd (h.gone 0) ⟨⟨by omega, by omega⟩, ⟨by omega, by omega⟩, h.fit p (List.mem_of_getElem? hp)⟩ fun j _ => by rw [h.at_ 0 i p h.nd hp]
  have := ht s first b (count - ps.length) hs
  rw [show count - ps.length + ps.length = count by have := h.len; omega] at this
  rw [this]
  exact colF_end fun h0 => look_blank fun d => by rw [h.blank d _ (Nat.le_refl _) (by omega)]; rfl
theorem LogR.flushed {s : RS} {first count b : Nat} {ps : List Pc} (h : LogR s first count b ps) : LogR s.flushed first count b ps :=
  ⟨h.calm.flushed, h.gone, h.nd, h.len, h.fit, h.bb, h.cc, fun d i p hd hp => by rw [holds_flushed]; exact h.at_ d i p hd hp, fun d a h1 h2 => by rw [holds_flushed]; exact h.blank d a h1 h2⟩
/-- behind a flush a crash takes nothing -/
theorem holds_fc (s : RS) (P : Nat → Bool) (d a : Nat) : (s.flushed.crashed P).holds d a = s.holds d a := by
  rw [holds_crashed]
  rw [← holds_flushed s d a]
  rfl
theorem LogR.fc {s : RS} {first count b : Nat} {ps : List Pc} (h : LogR s first count b ps) (P : Nat → Bool) : LogR (s.flushed.crashed P) first count b ps :=
  ⟨⟨rfl, rfl⟩, h.gone, h.nd, h.len, h.fit, h.bb, h.cc, fun d i p hd hp => by rw [holds_fc]; exact h.at_ d i p hd hp, fun d a h1 h2 => by rw [holds_fc]; exact h.blank d a h1 h2⟩
end Itn
end Go.Proofs.YtikenhcglbfgpaaDoor
namespace Go.Proofs.YtikenhcglbfgpaaDoor
open Go Go.RowKit refRack
set_option maxRecDepth 100000
set_option linter.unusedVariables false
namespace Itn
theorem KL.to_keep {l B : Nat} {w w' : World} (h : KL l B w w') (hl : w.heap.size ≤ l) : Keep B w w' :=
  ⟨h.below, fun k o h1 h2 => h.kept k o h1 h2 (by have := (Array.getElem?_eq_some_iff.1 h1).1; omega)⟩
theorem ownS_base {w : World} {base base' : Nat} {v : Value} {l : List ByteArray} (h : OwnS w base v l) (hb : base' ≤ base) : OwnS w base' v l := by
  refine ⟨h.1, ?_⟩
  rcases h.2 with e | ⟨g, cap, cur, e, h1, h2⟩
  · exact .inl e
  · exact .inr ⟨g, cap, cur, e, Nat.le_trans hb h1, h2⟩
def OpenPost (B : Nat) (w : World) (r : Nat) (s : RS) (first count base : Nat) (fin : List ByteArray × Nat) (e : Ending) (w' : World) : Prop := ∃ l v, e = .returned (.tuple #[.pointer (some ⟨l, 0, none⟩), v, .int .i64 0]) ∧ w.heap.size ≤ l ∧ OwnS w' w.heap.size v fin.1 ∧ RackAt B w' r s ∧ Blk w' l 53 (logA r first count base fin.2) ∧ Keep B w w'
set_option maxHeartbeats 3200000 in
theorem open_at {B : Nat} (w : World) (r : Nat) (s : RS) (first count base : Nat) (h : RackAt B w r s) (hl : Laid w) (hB : 0 < B) (ho : s.off = false) (hq : first + count ≤ s.ns) (hc1 : 1 ≤ count) (hct : count ≤ 500) (hbs : base ≤ 1000000) (hfk : first + count ≤ 1000000) :
    Calls Tryd.prog 7 #[.pointer (some ⟨r, 0, none⟩), .int .i64 (first : Int), .int .i64 (count : Int), .int .i64 (base : Int)] w fun e w' => OpenPost B w r s first count base (colF s first (base : Int) count 0 ⟨#[]⟩ [] 0) e w' := by
  have hns2 := h.1.ns2
  obtain ⟨fin, hfin⟩ : ∃ fin, fin = colF s first (base : Int) count 0 ⟨#[]⟩ [] 0 := ⟨_, rfl⟩
  rw [← hfin]
  have HFIN := Lib.hid hfin
  have HR := Lib.hid h
  have HLE : Hid (B ≤ w.heap.size) := Lib.hid h.le
  obtain ⟨ns, hns⟩ : ∃ ns, ns = s.ns := ⟨_, rfl⟩
  rw [← hns] at hns2
  have HNS := Lib.hid hns
  have hqn : first + count ≤ ns := by omega
  have i1 : ¬ ((first : Int) < 0) := by omega
  have i2 : ¬ ((count : Int) < 1) := by omega
  have i3 : ¬ ((500 : Int) < (count : Int)) := by omega
  have i4 : ¬ ((ns : Int) - (count : Int) < (first : Int)) := by omega
  have HL := Lib.hid hl
  have HO := Lib.hid ho
  have HQ := Lib.hid hq
  have HBS := Lib.hid hbs
  have HFK := Lib.hid hfk
  have HB : Hid (Blk (w.alloc (.cells (logA r first count base 0) 53)) w.heap.size 53 (logA r first count base 0) ∧ RackAt B (w.alloc (.cells (logA r first count base 0) 53)) r s ∧ Laid (w.alloc (.cells (logA r first count base 0) 53)) ∧ Keep B w (w.alloc (.cells (logA r first count base 0) 53))) := Lib.hid ⟨Blk.new _ _ _, h.alloc _, hl.alloc _, (Keep.refl B w).alloc h.le _⟩
  have HS : Hid ((w.alloc (.cells (logA r first count base 0) 53)).heap.size = w.heap.size + 1) := Lib.hid (by simp)
  clear h hl ho hq hbs hns hfin
  go_enter Tryd.func7, Tryd.ntmps7
  go_wp2_with fail
  refine (sectors_any w r s HR.out).mono ?_
  rintro e w' ⟨rfl, hw⟩
  replace hw := hw.symm
  subst hw
  rw [← HNS.out]
  go_wp2_with fail
  refine (isbase_at base HBS.out w).mono ?_
  rintro e w' ⟨rfl, hw⟩
  replace hw := hw.symm
  subst hw
  go_upto_region 4 with (fail)
  obtain ⟨W1, hW1⟩ : ∃ W1, W1 = w.alloc (.cells (logA r first count base 0) 53) := ⟨_, rfl⟩
  obtain ⟨l, hgl⟩ : ∃ l, l = w.heap.size := ⟨_, rfl⟩
  have hW1' : w.alloc (.cells #[.pointer (some ⟨r, 0, none⟩), .int .i64 (first : Int), .int .i64 (count : Int), .int .i64 (base : Int), .int .i64 0] 53) = W1 := hW1.symm
  rw [hW1', ← hgl]
  rw [← hW1, ← hgl] at HB
  rw [← hW1] at HS
  have HGL := Lib.hid hgl
  clear hW1 hW1' hgl
  go_wp2_with fail
  refine (collect_at W1 r l s first count base HB.out.2.1 HB.out.1 HB.out.2.2.1 hB (by rw [HGL.out]; exact HLE.out) HO.out HQ.out hct HBS.out HFK.out).mono ?_
  rintro e w2 ⟨⟨v, rfl, hv⟩, h2, hb2, k2⟩
  rw [← HFIN.out] at hv hb2
  have H2 := Lib.hid (⟨hv, h2, hb2, k2⟩ : _ ∧ _ ∧ _ ∧ _)
  clear hv h2 hb2 k2
  go_wp2_with fail
  go_ret3
  refine ⟨l, v, rfl, by rw [HGL.out]; exact Nat.le_refl _, ?_, H2.out.2.1, H2.out.2.2.1, ?_⟩
  · exact ownS_base H2.out.1 (by rw [HS.out]; omega)
  · have k : KL l B w w2 := (KL.of_keep HB.out.2.2.2).trans H2.out.2.2.2
    exact k.to_keep (by rw [HGL.out]; exact Nat.le_refl _)
end Itn
end Go.Proofs.YtikenhcglbfgpaaDoor
namespace Go.Proofs.YtikenhcglbfgpaaDoor
open Go Go.RowKit refRack
set_option maxRecDepth 100000
set_option linter.unusedVariables false
namespace Itn
theorem rd_str {w : World} {A : Option Addr} {l : List ByteArray} (h : Gr.RdG 1 csS w A l) {i : Nat} {x : ByteArray} (hx : l[i]? = some x) : ∃ b o, A = some ⟨b, o, none⟩ ∧ w.cell? ⟨b, o + i, none⟩ = some (.string x) := by
  obtain ⟨b, o, e, _, k⟩ := h i x hx
  have k0 := k 0 (.string x) rfl
  rw [Nat.mul_one, Nat.add_zero] at k0
  exact ⟨b, o, e, k0⟩
set_option maxHeartbeats 1600000 in
theorem same_txts (w : World) (l : List ByteArray) (A1 A2 : Option Addr) (n c1 c2 : Nat) (hn : n = l.length) (h1 : Gr.RdG 1 csS w A1 l) (h2 : Gr.RdG 1 csS w A2 l) (hm : n ≤ 1000000) :
    Calls Tryd.prog 13 #[.slice A1 n c1, .slice A2 n c2] w fun e w' => e = .returned (.bool true) ∧ ∃ m, w' = w.drewN m := by
  have H1 := Lib.hid h1
  have H2 := Lib.hid h2
  have HN := Lib.hid hn
  clear h1 h2 hn
  go_enter Tryd.func13, Tryd.ntmps13
  go_wp2_with fail
  go_loopw [5] (fun y wr => ∃ i m : Nat, i ≤ n ∧ y = .int .i64 (i : Int) ∧ wr = w.drewN m) (fun y _ => n - (intOf y).toNat)
  case atStart => exact ⟨0, 0, by omega, rfl, by simp [World.drewN]⟩
  case round =>
    obtain ⟨i, m, hi, rfl, rfl⟩ := hrel
    by_cases hlt : i < n
    · have i1 : (i : Int) < (n : Int) := by omega
      have hil : i < l.length := by have := HN.out; omega
      obtain ⟨x, hx⟩ : ∃ x, x = l[i] := ⟨_, rfl⟩
      have hxi : l[i]? = some x := by rw [hx]; exact List.getElem?_eq_getElem hil
      obtain ⟨b1, o1, e1, q1⟩ := rd_str H1.out hxi
      obtain ⟨b2, o2, e2, q2⟩ := rd_str H2.out hxi
      subst e1 e2
      clear hx hxi hil
      go_upto_region 6 with (fail)
      go_quiet (fail)
      go_wp2_with fail
      go_roundw
      case rel => exact ⟨i + 1, m + nq, by omega, by go_num, by simp [World.drewN]⟩
      case measure => simp [intOf]; omega
    · have i1 : ¬ ((i : Int) < (n : Int)) := by omega
      go_wp2_with fail
      go_ret
      exact ⟨rfl, m, rfl⟩
end Itn
end Go.Proofs.YtikenhcglbfgpaaDoor
namespace Go.Proofs.YtikenhcglbfgpaaDoor
open Go Go.RowKit refRack
set_option maxRecDepth 100000
set_option linter.unusedVariables false
namespace Itn
def abc : ByteArray := ⟨#[97, 98, 99]⟩
theorem rd_one (w : World) (x : ByteArray) : Gr.RdG 1 csS (w.alloc (.cells #[.string x] 9)) (some ⟨w.heap.size, 0, none⟩) [x] := by
  intro i y hy
  have hi : i = 0 := by have := (List.getElem?_eq_some_iff.1 hy).1; simp at this; exact this
  subst hi
  injection hy with hy
  subst hy
  refine ⟨w.heap.size, 0, rfl, by simp, fun j u hu => ?_⟩
  have hj : j = 0 := by have := (List.getElem?_eq_some_iff.1 hu).1; simp [csS] at this; exact this
  subst hj
  rw [(Blk.new w 9 #[.string x]).cell]
  exact hu
theorem known_log : LogR (putS (RS.new 5 20) 8 3 0 (cutL abc)) 8 10 3 (cutL abc) := (LogR.new 5 20 8 10 3 (by omega) (by omega) (by omega)).app (cutL abc) (by show 0 + (cutL abc).length ≤ 10; rw [cutL_len]; decide) (cutL_fit abc)
theorem tells_one (t : ByteArray) : Tells (cutL t) [t] := tells_app tells_nil t
set_option maxHeartbeats 3200000 in
theorem known_at (w : World) (hl : Laid w) : Calls Tryd.prog 5 #[] w fun e w' => e = .returned (.bool true) ∧ Below w.heap.size w w' := by
  have HLD := Lib.hid hl
  have hpos := hl.pos
  clear hl
  go_enter Tryd.func5, Tryd.ntmps5
  go_wp2_with fail
  refine (new_any w 5 20 (by omega) (by omega) (by omega) (by omega)).mono ?_
  rintro e w1 ⟨⟨r, rfl, h1⟩, k1⟩
  have H1 := Lib.hid h1
  have K1 := Lib.hid k1
  clear h1 k1
  go_wp2_with fail
  have HO := Lib.hid (open_at w1 r _ 8 10 3 H1.out (HLD.out.below K1.out.below hpos) hpos rfl (by show 8 + 10 ≤ 20; omega) (by omega) (by omega) (by omega) (by omega))
  rw [(LogR.new 5 20 8 10 3 (by omega) (by omega) (by omega)).col tells_nil] at HO
  refine HO.out.mono ?_
  rintro e w2 ⟨l, v, rfl, hll, hv, h2, x2, k2⟩
  have H2 := Lib.hid h2
  have K2 := Lib.hid (K1.out.trans k2)
  have X2 : Hid (Blk w2 l 53 (logA r 8 10 3 0)) := Lib.hid x2
  have HLL : Hid (w.heap.size ≤ l) := Lib.hid (by have := K1.out.below.size; omega)
  clear hv h2 x2 k2 hll HO H1 K1
  go_wp2_with fail
  have HA := Lib.hid (app_ok w2 r l _ 8 10 3 0 abc H2.out X2.out (HLD.out.below K2.out.below hpos) hpos HLL.out ⟨rfl, rfl⟩ (by rw [cntW_all (fun _ => rfl)]; decide) (by show 8 + 10 ≤ 20; omega) (by decide) (by decide) (by omega) (by omega) (by decide))
  refine HA.out.mono ?_
  rintro e w3 ⟨rfl, h3, x3, k3⟩
  have H3 := Lib.hid h3
  have K3 : Hid (Keep w.heap.size w w3) := Lib.hid (((KL.of_keep K2.out).trans k3).to_keep HLL.out)
  have X3 : Hid (Blk w3 l 53 (logA r 8 10 3 1)) := Lib.hid x3
  clear h3 x3 k3 HA H2 K2 X2
  go_wp2_with fail
  refine (flush_any w3 r _ (putS (RS.new 5 20) 8 3 0 (cutL abc)).flushed 0 H3.out (by rw [known_log.calm.pow]; rfl) (by rw [known_log.calm.pow, known_log.calm.spent]; rfl)).mono ?_
  rintro e w4 ⟨rfl, h4, k4⟩
  have H4 := Lib.hid h4
  have K4 := Lib.hid (K3.out.trans k4)
  have X4 := Lib.hid (k4.block X3.out rfl)
  clear h4 k4 H3 K3 X3
  go_wp2_with fail
  refine (room_at w4 r l 8 10 3 1 X4.out (by omega) (by omega)).mono ?_
  rintro e w5 ⟨rfl, m, rfl⟩
  have H5 := Lib.hid (H4.out.drewN m)
  have K5 := Lib.hid (K4.out.drewN m)
  clear H4 K4 X4
  go_wp2_with fail
  refine (crash_any (w4.drewN m) r _ none 0 0 (fun _ => 0) H5.out ⟨fun i hi => absurd hi (Nat.not_lt_zero _), by decide, .inl rfl⟩).mono ?_
  rintro e w6 ⟨rfl, h6, k6⟩
  have H6 := Lib.hid h6
  have K6 := Lib.hid (K5.out.trans k6)
  clear h6 k6 H5 K5
  go_wp2_with fail
  have hlk := (putS_like 8 3 (cutL abc) (RS.new 5 20) 0).1
  have HO := Lib.hid (open_at w6 r _ 8 10 3 H6.out (HLD.out.below K6.out.below hpos) hpos rfl (by show 18 ≤ (putS (RS.new 5 20) 8 3 0 (cutL abc)).ns; rw [hlk.ns]; decide) (by omega) (by omega) (by omega) (by omega))
  rw [(known_log.fc (odd 0 fun _ => 0)).col (tells_one abc)] at HO
  clear hlk
  refine HO.out.mono ?_
  rintro e w7 ⟨l2, v2, rfl, _, hv, h7, _, k7⟩
  obtain ⟨A, c, rfl, hrd, _⟩ := Gr.OwnG.shape hv (fun _ => rfl)
  have K7 := Lib.hid (K6.out.trans k7)
  have hb8 : Below w7.heap.size w7 (w7.alloc (.cells #[.string abc] 9)) := (Below.refl _ _).alloc (Nat.le_refl _) _
  have HRD := Lib.hid (Gr.RdG.below hrd hb8)
  have L8 : Hid (Below w.heap.size w (w7.alloc (.cells #[.string abc] 9))) := Lib.hid (K7.out.below.trans (hb8.mono K7.out.below.size))
  clear hv h7 k7 hrd hb8 HO H6 K6
  go_wp2_with fail
  refine (same_txts _ [abc] A _ 1 c 1 rfl HRD.out (rd_one w7 abc) (by omega)).mono ?_
  rintro e w8 ⟨rfl, m8, rfl⟩
  have L9 := Lib.hid (L8.out)
  go_wp2_with fail
  go_ret
  exact ⟨rfl, ⟨L9.out.os, L9.out.tape, L9.out.output, L9.out.size, L9.out.block⟩⟩
end Itn
end Go.Proofs.YtikenhcglbfgpaaDoor
