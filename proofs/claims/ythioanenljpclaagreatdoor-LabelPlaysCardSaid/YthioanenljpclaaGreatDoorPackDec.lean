/-
  'pack.Decode' by contracts. Conditions: bytes that read as such.
-/
import Derived.Test.YthioanenljpclaaGreatDoorPackItemM
namespace Go.Proofs.YthioanenljpclaaGreatDoor
set_option maxRecDepth 100000
open Go Go.RowKit
set_option linter.unusedVariables false

def icells : List K.It → List Value
  | [] => []
  | x :: l => .int .i64 x.k :: .int .i64 x.n :: .string x.s :: icells l
theorem icells_length : ∀ l, (icells l).length = l.length * 3
  | [] => rfl
  | x :: l => by simp [icells, icells_length l]; omega
theorem icells_append : ∀ l m, icells (l ++ m) = icells l ++ icells m
  | [], m => rfl
  | x :: l, m => by simp [icells, icells_append l m]
theorem icells_get : ∀ (l : List K.It) (j : Nat) (x : K.It), l[j]? = some x → (icells l)[j * 3]? = some (.int .i64 x.k) ∧ (icells l)[j * 3 + 1]? = some (.int .i64 x.n) ∧ (icells l)[j * 3 + 2]? = some (.string x.s)
  | [], j, x, h => by simp at h
  | y :: l, 0, x, h => by simp at h; subst h; exact ⟨rfl, rfl, rfl⟩
  | y :: l, j + 1, x, h => by
    have h' : l[j]? = some x := by simpa using h
    have := icells_get l j x h'
    rw [show (j + 1) * 3 = (j * 3) + 3 by omega]
    exact this
theorem icells_mem : ∀ (l : List K.It), ∀ u ∈ icells l, u.oneCell' = true
  | [], u, hu => by simp [icells] at hu
  | y :: m, u, hu => by
    simp only [icells, List.mem_cons] at hu
    rcases hu with rfl | rfl | rfl | hu
    · rfl
    · rfl
    · rfl
    · exact icells_mem m u hu
/-- the call's own row of items -/
def OwnI (w : World) (base : Nat) (v : Value) (l : List K.It) : Prop := w.ownsRow base 104 3 v l.length (icells l)
theorem OwnI.nil (w : World) (base : Nat) : OwnI w base (.slice none 0 0) [] := World.ownsRow_nil w base _ 3
theorem OwnI.shape {w : World} {base : Nat} {v : Value} {l : List K.It} (h : OwnI w base v l) : ∃ A c, v = .slice A l.length c ∧ l.length ≤ c ∧ c ≤ maxLen ∧ RdT w w.heap.size A l ∧ (A = none → c = 0) ∧ (∀ b o s, A = some ⟨b, o, s⟩ → base ≤ b) := by
  rcases h.2 with ⟨h1, h2⟩ | ⟨g, cap, cur, h1, h2, h3, h4, h5, h6, h7⟩
  · refine ⟨none, 0, by rw [h1, h2], by omega, by unfold maxLen; omega, fun j x hj => ?_, (fun _ => rfl), (fun b o s e => by cases e)⟩
    have := (List.getElem?_eq_some_iff.1 hj).1; omega
  · refine ⟨_, cap, h1, h4, h5, fun j x hj => ?_, (fun e => by cases e), (fun b o s e => by injection e with e; injection e with e; omega)⟩
    have hlt := (Array.getElem?_eq_some_iff.1 h3).1
    have hg : v.ownBlock = some g := by rw [h1]; rfl
    obtain ⟨c0, c1, c2⟩ := icells_get l j x hj
    have d := fun i u hu => by have := h.cells hg i u hu; rw [add_plain, Nat.zero_add] at this; exact this
    refine ⟨g, 0, rfl, hlt, ?_, ?_, ?_⟩
    · rw [Nat.zero_add]; exact d _ _ c0
    · rw [Nat.zero_add]; exact d _ _ c1
    · rw [Nat.zero_add]; exact d _ _ c2
theorem OwnI.below {w w' : World} {base B : Nat} {v : Value} {l : List K.It} (h : OwnI w base v l) (hk : Below B w w') (hB : w.heap.size ≤ B) : OwnI w' base v l :=
  h.kept (row := none) ⟨hk.os, hk.tape, hk.output, hk.size, fun k hk1 _ => hk.block k (by omega)⟩ (by cases v.ownBlock <;> simp)
theorem OwnI.base {w : World} {base base' : Nat} {v : Value} {l : List K.It} (h : OwnI w base v l) (hb : base' ≤ base) : OwnI w base' v l := by
  refine ⟨h.1, ?_⟩
  rcases h.2 with h1 | ⟨g, cap, cur, h1, h2, h3⟩
  · exact .inl h1
  · exact .inr ⟨g, cap, cur, h1, by omega, h3⟩
theorem info_item : (Tryz.prog.info? 104).map (fun i => (i.zero, i.size, i.bytes)) = some (some (.agg #[.int .i64 0, .int .i64 0, .string ⟨#[]⟩]), 3, 32) := by kernel_rfl
theorem info_parts3 {i? : Option TypeInfo} {z : Value} {s b : Nat} (h : i?.map (fun i => (i.zero, i.size, i.bytes)) = some (some z, s, b)) : ∃ i, i? = some i ∧ i.zero = some z ∧ i.size = s ∧ i.bytes = b := by
  cases i? with
  | none => simp at h
  | some i => simp at h; exact ⟨i, rfl, h.1, h.2.1, h.2.2⟩
theorem wpList_append_item {w : World} {ops : Array Oper} {rest : List Oper} {o : Oper} {a : Act} {Q : Exit → Act → World → Prop} (hgd : o.guard = none) (s x : Operand)
    (ho : o.op = .call { callee := .builtin .append, args := #[s, x], argTypes := #[105, 105] }) {base : Nat} {v : Value} {l m : List K.It} {ad : Addr} {c n : Nat} (hs : a.eval s = v) (hx : a.eval x = .slice (some ad) n c) (hn : n = m.length)
    (hown : OwnI w base v l) (hnews : ∀ j u, (icells m)[j]? = some u → w.cell? (ad.add j) = some u) (hl : l.length + m.length ≤ 1099511627776) (hb : base ≤ w.heap.size)
    (h : ∀ v' w', OwnI w' base v' (l ++ m) → w.grownBy w' v.ownBlock → (v'.ownBlock = v.ownBlock ∨ v'.ownBlock = some w.heap.size) → wpList Tryz.prog ops Q rest (a.put o.dst v') w') : wpList Tryz.prog ops Q (o :: rest) a w := by
  subst hn
  obtain ⟨i0, hi, hz0, hz1, hz2⟩ := info_parts3 info_item
  refine wpList_append_own_at (P := Tryz.prog) w hgd s x 105 ho base 104 i0 _ 3 32 Tryz.underlying105 hi hz0 hz1 hz2 rfl (by omega) v l.length (icells l) hs hown ad m.length c (icells m) hx (icells_length m) hnews ?_ (by unfold maxLen; omega) (by omega) hb fun v' w' h1 h2 _ h4 => h v' w' ?_ h2 h4
  · exact icells_mem m
  · unfold OwnI
    rw [icells_append, List.length_append]
    exact h1
/-- 'append(l, x)': x lies in a block of its own -/
theorem item_new (w : World) (x : K.It) : ∀ j u, (icells [x])[j]? = some u → (w.alloc (.cells #[.int .i64 x.k, .int .i64 x.n, .string x.s] 104)).cell? ((⟨w.heap.size, 0, none⟩ : Addr).add j) = some u := by
  intro j u hj
  rw [add_plain, Nat.zero_add, cell_of_row _ _ _ _ _ _ (Blk.new w 104 #[.int .i64 x.k, .int .i64 x.n, .string x.s])]
  simpa [icells] using hj

theorem item_new2 (w : World) (o : Obj) (x : K.It) : ∀ j u, (icells [x])[j]? = some u → ((w.alloc o).alloc (.cells #[.int .i64 x.k, .int .i64 x.n, .string x.s] 104)).cell? ((⟨w.heap.size + 1, 0, none⟩ : Addr).add j) = some u := by
  have h := item_new (w.alloc o) x
  rw [show (w.alloc o).heap.size = w.heap.size + 1 by simp] at h
  exact h
theorem RdB.back {w w' : World} {B B' n : Nat} {A : Option Addr} {x : Nat → Nat} (h : RdB w' B A n x) (hb : Below B' w w') (hB : B ≤ B') : RdB w B A n x := by
  intro j hj
  obtain ⟨b, o, h1, h2, h3, h4⟩ := h j hj
  exact ⟨b, o, h1, h2, (hb.cell (p := ⟨b, o + j, none⟩) (by show b < B'; omega)).symm.trans h3, h4⟩
theorem decs_nil (m : Nat) : K.decs m [] = some [] := by cases m <;> rfl
theorem decs_none {m b : Nat} {r : List Nat} (h : K.takeI (b :: r) = none) : K.decs m (b :: r) = none := by
  cases m with
  | zero => rfl
  | succ m => unfold K.decs; rw [h]
theorem decs_some {m b : Nat} {r R : List Nat} {x : K.It} (h : K.takeI (b :: r) = some (x, R)) : K.decs (m + 1) (b :: r) = (K.decs m R).map (x :: ·) := by
  show (match K.takeI (b :: r) with | none => none | some (x, rest) => (K.decs m rest).map (x :: ·)) = _
  rw [h]
/-- what Decode answers -/
def DecOut (L : List Nat) (base : Nat) (e : Ending) (w' : World) : Prop :=
  (K.decs 2000 L = none ∧ e = .returned (.tuple #[.slice none 0 0, .int .i64 2])) ∨ ∃ l v, K.decs 2000 L = some l ∧ e = .returned (.tuple #[v, .int .i64 0]) ∧ OwnI w' base v l
set_option maxRecDepth 100000 in
set_option maxHeartbeats 1600000 in
theorem decode_any (A : Option Addr) (L : List Nat) (c B : Nat) (w : World) (hx : RdB w B A L.length (lst L)) (hB : B ≤ w.heap.size) (hL : ∀ x ∈ L, x < 256) (hlc : L.length ≤ c) (hcm : c ≤ maxLen) :
    Calls Tryz.prog 90 #[.slice A L.length c] w fun e w' => DecOut L w.heap.size e w' ∧ Below w.heap.size w w' := by
  have HX := Lib.hid hx
  have HL := Lib.hid hL
  have HC := Lib.hid hcm
  unfold maxLen at hcm
  clear hx hL
  go_enter Tryz.func90, Tryz.ntmps90
  go_wp2_with fail
  go_loopw [0, 4] (fun x y wr => ∃ (R : List Nat) (A' : Option Addr) (c' : Nat) (l : List K.It), x = .slice A' R.length c' ∧ R.length ≤ c' ∧ c' ≤ c ∧ l.length ≤ 2000 ∧ Hid (RdB w B A' R.length (lst R)) ∧ Hid (∀ b ∈ R, b < 256) ∧ Hid ((K.decs (2000 - l.length) R).map (l ++ ·) = K.decs 2000 L) ∧ Hid (OwnI wr w.heap.size y l) ∧ Hid (Below w.heap.size w wr)) (fun x _ _ => match x with | .slice _ m _ => m | _ => 0)
  case atStart => exact ⟨L, A, c, [], rfl, hlc, Nat.le_refl _, by simp, HX, HL, Lib.hid (by simp), Lib.hid (OwnI.nil _ _), Lib.hid (Below.refl _ _)⟩
  case round =>
    obtain ⟨R, A', c', l, rfl, hR, hc', hl, HR, HLR, E1, O1, L1⟩ := hrel
    have hs := L1.out.size
    obtain ⟨A4, c4, hv4, hc4, hm4, _⟩ := O1.out.shape
    cases R with
    | nil =>
      have E2 : Hid (K.decs 2000 L = some l) := Lib.hid (by rw [← E1.out, decs_nil]; simp)
      subst hv4
      clear E1
      go_wp2_with fail
      go_ret2
      exact ⟨.inr ⟨l, _, E2.out, rfl, O1.out⟩, L1.out⟩
    | cons b0 r =>
      have i1 : (0 : Int) < ((r.length + 1 : Nat) : Int) := by omega
      go_wp2_with fail
      refine (takeItem_any A' b0 r c' B wr (HR.out.below L1.out hB) (by omega) HLR.out hR (by have := HC.out; omega)).mono ?_
      rintro e w2 ⟨ht, hl2⟩
      unfold TakeI at ht
      have L2 := Lib.hid (L1.out.trans (hl2.mono hs))
      have O2 := Lib.hid (O1.out.below hl2 (Nat.le_refl _))
      have hs2 := L2.out.size
      clear hl2
      rcases ht with ⟨hq, rfl⟩ | ⟨x, k, A2, hq, hk0, hk, hrd, he⟩
      · have E2 : Hid (K.decs 2000 L = none) := Lib.hid (by rw [← E1.out, decs_none hq]; rfl)
        subst hv4
        clear E1 hq
        go_wp2_with fail
        go_ret2
        exact ⟨.inl ⟨E2.out, rfl⟩, L2.out.alloc hs2 _⟩
      · obtain ⟨q, hqq⟩ : ∃ q, q = (b0 :: r).length - k := ⟨_, rfl⟩
        obtain ⟨c2, hc2⟩ : ∃ c2, c2 = c' - k := ⟨_, rfl⟩
        rw [← hqq] at hrd he
        rw [← hc2] at he
        have HQ := Lib.hid hq
        have HRD := Lib.hid hrd
        obtain ⟨xk, xn, xs⟩ := x
        unfold itA at he
        dsimp only at he
        subst hv4
        subst he
        by_cases hl20 : l.length = 2000
        · have E2 : Hid (K.decs 2000 L = none) := Lib.hid (by rw [← E1.out, hl20]; rfl)
          have t1 : ((l.length : Int) == 2000) = true := by simp; omega
          clear E1 hl20 hq hrd hqq hc2
          go_wp2_with fail
          go_ret2
          exact ⟨.inl ⟨E2.out, rfl⟩, L2.out.alloc hs2 _⟩
        · have t1 : ((l.length : Int) == 2000) = false := by simp; omega
          have E2 : Hid ((K.decs (2000 - (l ++ [K.It.mk xk xn xs]).length) ((b0 :: r).drop k)).map ((l ++ [K.It.mk xk xn xs]) ++ ·) = K.decs 2000 L) := Lib.hid (by
            rw [← E1.out, show 2000 - l.length = (2000 - (l ++ [K.It.mk xk xn xs]).length) + 1 by simp; omega, decs_some hq, Option.map_map]
            congr 1
            · funext t
              simp)
          have hll : l.length < 2000 := by omega
          have HQQ := Lib.hid hqq
          have HC2 := Lib.hid hc2
          clear E1 hl20 hq hrd hqq hc2 O1
          have O3 : Hid (OwnI ((w2.alloc (.cells #[.int .i64 xk, .int .i64 xn, .string xs] 104)).alloc (.cells #[.int .i64 xk, .int .i64 xn, .string xs] 104)) w.heap.size (.slice A4 l.length c4) l) := Lib.hid ((O2.out.alloc _).alloc _)
          have N3 := Lib.hid (item_new2 w2 (.cells #[.int .i64 xk, .int .i64 xn, .string xs] 104) ⟨xk, xn, xs⟩)
          have L3 : Hid (Below w.heap.size w ((w2.alloc (.cells #[.int .i64 xk, .int .i64 xn, .string xs] 104)).alloc (.cells #[.int .i64 xk, .int .i64 xn, .string xs] 104))) := Lib.hid ((L2.out.alloc hs2 _).alloc (by simp; omega) _)
          have hs3 : w.heap.size ≤ ((w2.alloc (.cells #[.int .i64 xk, .int .i64 xn, .string xs] 104)).alloc (.cells #[.int .i64 xk, .int .i64 xn, .string xs] 104)).heap.size := by simp; omega
          go_wp2_with ((refine wpList_append_item rfl (.tmp 24) (.tmp 26) rfl rfl rfl (m := [⟨xk, xn, xs⟩]) rfl O3.out N3.out (by simp; omega) hs3 ?_); intro v4 w4 ho4 hg4 he4; refine of_hid ?_)
          refine Lib.hid ?_
          have L4 : Hid (Below w.heap.size w w4) := Lib.hid (L3.out.trans ⟨hg4.os, hg4.tape, hg4.output, hg4.size, fun k hk => hg4.block k (by omega) fun e => by have := (O3.out.lt _ e.symm).1; omega⟩)
          have O4 := Lib.hid ho4
          clear ho4 hg4 he4 O3 O2 N3 L3
          go_wp2_with fail
          go_roundw
          case rel =>
            refine ⟨(b0 :: r).drop k, A2, c2, l ++ [⟨xk, xn, xs⟩], ?_, ?_, ?_, ?_, ?_, ?_, E2, O4, L4⟩
            · rw [List.length_drop, ← HQQ.out]
            · rw [List.length_drop, HC2.out]; omega
            · rw [HC2.out]; omega
            · simp; omega
            · rw [List.length_drop, ← HQQ.out]
              exact Lib.hid (HRD.out.back L1.out hB)
            · exact Lib.hid fun b hb => HLR.out b (List.mem_of_mem_drop hb)
          case measure =>
            have := HQQ.out
            simp at this ⊢
            omega
end Go.Proofs.YthioanenljpclaaGreatDoor
