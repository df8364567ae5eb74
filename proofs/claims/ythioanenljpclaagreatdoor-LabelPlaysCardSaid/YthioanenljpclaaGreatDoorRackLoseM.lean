/-
  'maps.DeleteFunc' as the rack calls it, by a contract. Conditions: the map is one of places and sectors.
-/
import Derived.Test.YthioanenljpclaaGreatDoorRackCrashM
import Derived.Maps.RangeWalk
namespace Go.Proofs.YthioanenljpclaaGreatDoor
set_option maxRecDepth 100000
open Go.RowKit
set_option linter.unusedVariables false

theorem box_sector (w : World) (cs : Array Value) : (Instr.box 87 (.agg cs)).run Tryz.prog w = .ok (.pointer (some ⟨w.heap.size, 0, none⟩)) (w.alloc (.cells cs 87)) := by kernel_rfl
theorem box_place (w : World) (cs : Array Value) : (Instr.box 84 (.agg cs)).run Tryz.prog w = .ok (.pointer (some ⟨w.heap.size, 0, none⟩)) (w.alloc (.cells cs 84)) := by kernel_rfl

set_option maxRecDepth 100000 in
set_option maxHeartbeats 400000 in
theorem pick_any (w : World) (i j D : Int) (cs : Array Value) (bd : Nat) (hb : Blk w bd 3 #[.int .i64 D]) :
    Calls Tryz.prog 58 #[.agg #[.int .i64 i, .int .i64 j], .agg cs, .pointer (some ⟨bd, 0, none⟩)] w fun e w' => e = .returned (.bool (i == D)) ∧ Below w.heap.size w w' := by
  have h1 := box_sector
  have h2 := box_place
  have c1 : ((w.alloc (.cells #[.int .i64 i, .int .i64 j] 84)).alloc (.cells cs 87)).cell? ⟨w.heap.size, 0, none⟩ = some (.int .i64 i) := ((Blk.new w 84 _).alloc _).cell 0
  have c2 : ((w.alloc (.cells #[.int .i64 i, .int .i64 j] 84)).alloc (.cells cs 87)).cell? ⟨bd, 0, none⟩ = some (.int .i64 D) := ((hb.alloc _).alloc _).cell 0
  have B2 := Lib.hid (((Below.refl w.heap.size w).alloc (Nat.le_refl _) (.cells #[.int .i64 i, .int .i64 j] 84)).alloc (by simp) (.cells cs 87))
  clear hb
  go_enter Tryz.func58, Tryz.ntmps58
  go_wp2_with fail
  go_ret
  exact ⟨rfl, B2.out⟩

/-- what is left of the sectors' map: nothing of drive d -/
def wipeF (F : Nat → Nat → Option Value) (d d' a' : Nat) : Option Value := if d' = d then none else F d' a'
def GoneTo (D0 D : DataW Value) (d : Nat) (left : Lit → Bool) : Prop :=
  Maps.IsMap D ∧ ∀ d' a', d' < 4611686018427387904 → a' < 4611686018427387904 → ∀ zd, D.atKey (klit d' a') zd = if d' = d ∧ left (klit d' a') = false then zd else D0.atKey (klit d' a') zd
theorem klit_of {key : Value} {kl : Lit} {i j : Int} (hk : keyOf Tryz.prog 84 key = some kl) (he : key = .agg #[.int .i64 i, .int .i64 j]) {d' a' : Nat} (hd : d' < 4611686018427387904) (ha : a' < 4611686018427387904) (h : klit d' a' = kl) : i = (d' : Int) ∧ j = (a' : Int) := by
  have h1 := key_ok hd ha
  rw [h] at h1
  have h2 := keyed.inj hk h1
  rw [he] at h2
  unfold pkey at h2
  simp at h2
  exact h2
theorem GoneTo.keep {D0 D : DataW Value} {d : Nat} {left : Lit → Bool} (h : GoneTo D0 D d left) {key : Value} {kl : Lit} {i j : Int} (hk : keyOf Tryz.prog 84 key = some kl) (he : key = .agg #[.int .i64 i, .int .i64 j]) (hi : i ≠ (d : Int)) :
    GoneTo D0 D d (fun z => left z && !z.sameKey kl) := by
  refine ⟨h.1, fun d' a' hd ha zd => ?_⟩
  rw [h.2 d' a' hd ha zd]
  by_cases e : klit d' a' = kl
  · have h2 := klit_of hk he hd ha e
    have h3 : ¬ d' = d := fun x => hi (by rw [h2.1, x])
    rw [if_neg (fun x => h3 x.1), if_neg (fun x => h3 x.1)]
  · have h4 : (klit d' a').sameKey kl = false := Maps.sameKey_ne e
    simp [h4]
theorem GoneTo.strike {D0 D : DataW Value} {d : Nat} {left : Lit → Bool} (h : GoneTo D0 D d left) {key : Value} {kl : Lit} {i j : Int} (hk : keyOf Tryz.prog 84 key = some kl) (he : key = .agg #[.int .i64 i, .int .i64 j]) (hi : i = (d : Int)) :
    GoneTo D0 (D.del kl) d (fun z => left z && !z.sameKey kl) := by
  refine ⟨h.1.del kl, fun d' a' hd ha zd => ?_⟩
  by_cases e : klit d' a' = kl
  · have h2 := klit_of hk he hd ha e
    have h3 : d' = d := by omega
    have h4 : kl.sameKey kl = true := WideAt.sameKey_self (keyed.key hk)
    rw [e, if_pos ⟨h3, by simp [h4]⟩, Maps.atKey_del_same]
  · have h4 : (klit d' a').sameKey kl = false := Maps.sameKey_ne e
    rw [Maps.atKey_del_other e, h.2 d' a' hd ha zd]
    simp [h4]

theorem grown_on {w a c : World} {b r : Nat} (h : w.grownBy a (some b)) (k : a.grownBy c (some r)) (hr : w.heap.size ≤ r) : w.grownBy c (some b) :=
  ⟨k.os.trans h.os, k.tape.trans h.tape, k.output.trans h.output, Nat.le_trans h.size k.size, fun i hi hne => (k.block i (Nat.lt_of_lt_of_le hi h.size) (fun e => by injection e with e; omega)).trans (h.block i hi hne)⟩
theorem grown_new {w a c : World} {b : Nat} (h : w.grownBy a (some b)) (k : Below a.heap.size a c) : w.grownBy c (some b) :=
  ⟨k.os.trans h.os, k.tape.trans h.tape, k.output.trans h.output, Nat.le_trans h.size k.size, fun i hi hne => (k.block i (Nat.lt_of_lt_of_le hi h.size)).trans (h.block i hi hne)⟩
theorem grown_trans {w a c : World} {b : Nat} (h : w.grownBy a (some b)) (k : a.grownBy c (some b)) : w.grownBy c (some b) :=
  ⟨k.os.trans h.os, k.tape.trans h.tape, k.output.trans h.output, Nat.le_trans h.size k.size, fun i hi hne => (k.block i (Nat.lt_of_lt_of_le hi h.size) hne).trans (h.block i hi hne)⟩
theorem ranges_new {w w' : World} {okv : Value → Bool} {b r n cnt : Nat} {D : DataW Value} {left : Lit → Bool} (h : w.ranges Tryz.prog 84 (RVp okv) b r n D left cnt) (k : Below w.heap.size w w') : w'.ranges Tryz.prog 84 (RVp okv) b r n D left cnt := by
  obtain ⟨es, clock, since, seen, c0, e1, e2, e3, e4, e5, e6⟩ := h
  exact ⟨es, clock, since, seen, c0, (k.block b (Array.getElem?_eq_some_iff.1 e1).1).trans e1, e2, e3, e4, (k.block r (Array.getElem?_eq_some_iff.1 e5).1).trans e5, e6⟩
set_option maxRecDepth 100000 in
set_option maxHeartbeats 1600000 in
theorem delete_any (w : World) (b n : Nat) (F : Nat → Nat → Option Value) (d bd : Nat) (h : MapS w b n F) (hb : Blk w bd 3 #[.int .i64 (d : Int)]) :
    Calls Tryz.prog 57 #[.map (some b), .func (.func 58) #[] #[.pointer (some ⟨bd, 0, none⟩)]] w fun e w' => e = .returned (.tuple #[]) ∧ MapS w' b n (wipeF F d) ∧ w.grownBy w' (some b) := by
  have hne : b ≠ bd := h.ne_blk hb
  have HN := Lib.hid hne
  have hbl := h.lt
  have hbdl := hb.lt
  obtain ⟨D, hown, him, hat⟩ := h
  have HAT := Lib.hid hat
  have HB := Lib.hid hb
  clear hat hb hne
  go_enter Tryz.func57, Tryz.ntmps57
  go_wp2_with (at_range; refine wpList_range_own _ rfl (.tmp 6) 63 rfl 84 87 keyed Tryz.underlying63 (RVp isSec) b n D rfl hown ?_; intro w0 hrg0 hg0 hs0)
  go_frame
  generalize hr : w.heap.size = r at *
  have RG := Lib.hid hrg0
  have G := Lib.hid hg0
  have ST : Hid (GoneTo D D d (Maps.has D)) := Lib.hid ⟨him, fun d' a' hd ha zd => by
    split
    · rename_i hx
      exact Maps.atKey_of_not_has hx.2 zd
    · rfl⟩
  have G0 := Lib.hid (G.out.but (some b))
  have hsz : r + 1 ≤ w0.heap.size := by omega
  have HR : Hid (r = w.heap.size) := Lib.hid hr.symm
  clear hrg0 hg0 hs0 hr G
  go_loopw [] (fun wr => ∃ (left : Lit → Bool) (cnt : Nat) (D' : DataW Value), Hid (wr.ranges Tryz.prog 84 (RVp isSec) b r n D' left cnt) ∧ Hid (w.grownBy wr (some b)) ∧ r + 1 ≤ wr.heap.size ∧ Hid (GoneTo D D' d left)) (fun wr => wr.rangeLeft b r)
  case atStart => exact ⟨_, _, D, RG, G0, hsz, ST⟩
  case round =>
    obtain ⟨left, cnt, D', RG1, G1, hsz1, ST1⟩ := hrel
    clear RG G0 ST hsz
    have LE1 : Hid (wr.rangeLeft b r = cnt) := Lib.hid RG1.out.left_eq
    go_wp2_with (at_next; refine wpList_next_ranges (w := wr) rfl (.tmp 7) rfl 84 keyed (RVp isSec) (id : Value → Value) (id : Value → Value) (fun key kl _ => ⟨key, rfl⟩) (fun v y _ => ⟨v, rfl⟩) b r n D' left cnt rfl RG1.out ?_ ?_)
    · intro hc0 hl0
      have ME : Hid (MapS wr b n (wipeF F d)) := by
        refine ⟨D', RG1.out.owns, ST1.out.1, fun d' a' hd ha zd => ?_⟩
        rw [ST1.out.2 d' a' hd ha zd, HAT.out d' a' hd ha zd]
        unfold wipeF
        by_cases e : d' = d
        · rw [if_pos ⟨e, hl0 _⟩, if_pos e]
          rfl
        · rw [if_neg (fun x => e x.1), if_neg e]
      clear hl0 hc0 RG1 ST1
      go_wp2_with fail
      go_end0
      exact ⟨rfl, ME.out, G1.out⟩
    · intro x c kl y ps w1 cnt1 hkey hlk hv hat hrg hlt hgr hs1 hen
      obtain ⟨i, j, rfl⟩ := key_inv hkey
      obtain ⟨hsec, _⟩ := RVp_inv hv
      obtain ⟨cs, rfl, hcs, hc1⟩ := isSec_inv hsec
      have KEY := Lib.hid hkey
      have RG2 := Lib.hid hrg
      have G2 : Hid (w.grownBy w1 (some b)) := Lib.hid (grown_on G1.out hgr (by have := HR.out; omega))
      have hsz2 : r + 1 ≤ w1.heap.size := by omega
      have hrl := Lib.hid hlt
      clear hkey hv hat hrg hlt hgr hs1 hsec RG1 G1
      go_wp2_with (refine wpList_allocX rfl 87 rfl _ (alloc_sector _) ?_; refine of_hid ?_)
      refine Lib.hid ?_
      refine wpList_storeBlk rfl 84 (.tmp 4) (.tmp 11) rfl w1.heap.size #[.int .i64 0, .int .i64 0] #[.int .i64 i, .int .i64 j] rfl rfl ((Blk.new w1 84 _).alloc _) isize_place rfl (by simp [Value.oneCell']) ?_
      intro w2 hb2 hg2 hs2
      have hbs : Blk w2 (w1.heap.size + 1) 87 (secA zeros) := (blk_new2 w1 (.cells #[.int .i64 0, .int .i64 0] 84) (secA zeros) 87).grown hg2 (fun e => by injection e with e; omega)
      refine wpList_storeBlk rfl 87 (.tmp 5) (.tmp 12) rfl (w1.heap.size + 1) (secA zeros) cs rfl rfl hbs (by rw [hcs]; exact isize_sector) (by rw [hcs, secA_size]) hc1 ?_
      intro w3 hb3 hg3 hs3
      have n1 : Below w1.heap.size w1 ((w1.alloc (.cells #[.int .i64 0, .int .i64 0] 84)).alloc (.cells (secA zeros) 87)) := ((Below.refl w1.heap.size w1).alloc (Nat.le_refl _) _).alloc (by simp) _
      have n2 : Below w1.heap.size w1 w2 := n1.trans ⟨hg2.os, hg2.tape, hg2.output, hg2.size, fun k hk => hg2.block k (by simp; omega) (fun e => by injection e with e; omega)⟩
      have n3 : Below w1.heap.size w1 w3 := n2.trans ⟨hg3.os, hg3.tape, hg3.output, hg3.size, fun k hk => hg3.block k (Nat.lt_of_lt_of_le hk n2.size) (fun e => by injection e with e; omega)⟩
      have P3 := hb2.grown hg3 (fun e => by injection e with e; omega)
      have p0 : w3.cell? ⟨w1.heap.size, 0, none⟩ = some (.int .i64 i) := P3.cell 0
      have p1 : w3.cell? ⟨w1.heap.size, 1, none⟩ = some (.int .i64 j) := P3.cell 1
      have hl3 := load_blk hb3 Tryz.underlying87 rfl (by rw [hcs]; exact isize_sector)
      have RG3 := Lib.hid (ranges_new RG2.out n3)
      have G3 := Lib.hid (grown_new G2.out n3)
      have HB3 := Lib.hid (HB.out.grown G3.out (fun e => HN.out (by injection e with e; exact e.symm)))
      have hsz3 : r + 1 ≤ w3.heap.size := Nat.le_trans hsz2 n3.size
      have HP3 := Lib.hid P3
      have hbx3 := P3.lt
      clear hb2 hg2 hs2 hbs hb3 hg3 hs3 n1 n2 n3 P3 RG2 G2 hen
      generalize w1.heap.size = bx at *
      go_wp2_with (refine wpList_loadX rfl 87 _ rfl _ _ rfl hl3 ?_; refine of_hid ?_)
      refine Lib.hid ?_
      go_wp2_with fail
      refine (pick_any w3 i j (d : Int) cs bd HB3.out).mono ?_
      rintro e w4 ⟨rfl, b4⟩
      have RG4 := Lib.hid (ranges_new RG3.out b4)
      have G4 := Lib.hid (grown_new G3.out b4)
      have hsz4 : r + 1 ≤ w4.heap.size := Nat.le_trans hsz3 b4.size
      have HP4 := Lib.hid (HP3.out.new_ b4)
      clear b4 RG3 G3 HP3 p0 p1 hl3 HB3
      by_cases hi : i = (d : Int)
      · rw [show (i == (d : Int)) = true from by simp [hi]]
        have ST2 := Lib.hid (ST1.out.strike KEY.out rfl hi)
        have p0 : w4.cell? ⟨bx, 0, none⟩ = some (.int .i64 i) := HP4.out.cell 0
        have p1 : w4.cell? ⟨bx, 1, none⟩ = some (.int .i64 j) := HP4.out.cell 1
        clear hi ST1
        go_wp2_with ((with_reducible refine wpList_delete_ranges w4 rfl (.tmp 17) (.tmp 18) 63 84 rfl 87 keyed Tryz.underlying63 (RVp isSec) b r n D' _ cnt1 rfl RG4.out (.agg #[.int .i64 i, .int .i64 j]) kl rfl KEY.out ?_); intro w5 cnt5 hrg5 hle5 hmt5)
        rw [Maps.strike_twice] at hrg5
        have LE5 := hrg5.left_eq
        have G5 := grown_trans G4.out hmt5.grown
        have hsz5 : r + 1 ≤ w5.heap.size := Nat.le_trans hsz4 hmt5.grown.size
        refine ⟨⟨_, _, _, _, _, _, _, _, _, _, _, _, _, ⟨_, _, _, Lib.hid hrg5, Lib.hid G5, hsz5, ST2⟩, rfl⟩, ?_⟩
        rw [LE5, LE1.out]
        exact Nat.lt_of_le_of_lt hle5 hrl.out
      · rw [show (i == (d : Int)) = false from by simp [hi]]
        have ST2 := Lib.hid (ST1.out.keep KEY.out rfl hi)
        clear hi ST1
        have LE4 := Lib.hid RG4.out.left_eq
        go_wp2_with fail
        go_roundw
        case rel => exact ⟨_, _, D', RG4, G4, hsz4, ST2⟩
        case measure => rw [LE4.out, LE1.out]; exact hrl.out
end Go.Proofs.YthioanenljpclaaGreatDoor
namespace Go.Proofs.YthioanenljpclaaGreatDoor
set_option maxRecDepth 100000
open Go.RowKit
set_option linter.unusedVariables false

/-- those that wait for other drives than d -/
def keptL (W : Nat → Wt) (d : Nat) : Nat → List Wt
  | 0 => []
  | k + 1 => if (W k).d = d then keptL W d k else keptL W d k ++ [W k]
theorem keptL_le (W : Nat → Wt) (d : Nat) : ∀ k, (keptL W d k).length ≤ k
  | 0 => Nat.le_refl _
  | k + 1 => by
    unfold keptL
    have := keptL_le W d k
    split
    · omega
    · simp; omega
theorem keptL_mem {W : Nat → Wt} {d : Nat} {v : Wt} : ∀ {k}, v ∈ keptL W d k → ∃ i, i < k ∧ W i = v ∧ v.d ≠ d
  | 0, h => by cases h
  | k + 1, h => by
    unfold keptL at h
    split at h
    · obtain ⟨i, h1, h2⟩ := keptL_mem h
      exact ⟨i, by omega, h2⟩
    · rename_i hne
      rw [List.mem_append] at h
      rcases h with h | h
      · obtain ⟨i, h1, h2⟩ := keptL_mem h
        exact ⟨i, by omega, h2⟩
      · simp at h
        exact ⟨k, by omega, h.symm, by rw [h]; exact hne⟩
def flatL (l : List Wt) : List Value := l.flatMap fun v => (waitA v).toList
theorem flatL_snoc (l : List Wt) (v : Wt) : flatL (l ++ [v]) = flatL l ++ (waitA v).toList := by simp [flatL]
theorem flat_succ (W : Nat → Wt) (n : Nat) : flat W (n + 1) = flat W n ++ (waitA (W n)).toList := rfl
theorem flat_take (l : List Wt) (z : Wt) (k : Nat) (h : k ≤ l.length) : flat (fun i => l.getD i z) k = flatL (l.take k) := by
  induction k with
  | zero => rw [List.take_zero]; rfl
  | succ k ih =>
    have hk : k < l.length := by omega
    have e : l.getD k z = l[k] := by simp [List.getD_eq_getElem?_getD, hk]
    rw [flat_succ, ih (by omega), List.take_succ_eq_append_getElem hk, flatL_snoc, e]
theorem flat_list (l : List Wt) (z : Wt) : flat (fun i => l.getD i z) l.length = flatL l := by rw [flat_take l z l.length (Nat.le_refl _), List.take_length]

/-- behind the loss of all that drive d holds -/
def RS.wiped (s : RS) (d : Nat) : RS :=
  { s with nw := (keptL s.W d s.nw).length, W := fun i => (keptL s.W d s.nw).getD i ⟨0, 0, zeros⟩, last := fun d' a' => if d' = d then zeros else s.last d' a' }
theorem RS.ok.wiped {s : RS} (h : s.ok) (d : Nat) : (s.wiped d).ok := by
  refine ⟨h.nd1, h.nd2, h.ns1, h.ns2, h.left, h.cost, fun i hi => ?_, fun d' a' j hj => ?_⟩
  · have hi' : i < (keptL s.W d s.nw).length := hi
    have e : (s.wiped d).W i = (keptL s.W d s.nw)[i] := by
      show (keptL s.W d s.nw).getD i ⟨0, 0, zeros⟩ = _
      simp [List.getD_eq_getElem?_getD, hi']
    rw [e]
    obtain ⟨k, h1, h2, _⟩ := keptL_mem (List.getElem_mem hi')
    rw [← h2]
    exact h.wp k h1
  · show (if d' = d then zeros else s.last d' a') j < 256
    split
    · exact Nat.succ_pos _
    · exact h.lp d' a' j hj
/-- what lasts of other drives -/
def RS.cleared (s : RS) (d : Nat) : RS := { s with last := fun d' a' => if d' = d then zeros else s.last d' a' }
theorem RackK.cleared {B : Nat} {w w' : World} {r m1 m2 k : Nat} {v : Value} {s : RS} (h : RackK B w r m1 m2 v s k) (d : Nat) {n : Nat} {F : Nat → Nat → Option Value} (f1 : n + s.nw ≤ s.cost)
    (f3 : ∀ d a, d < 4611686018427387904 → a < 4611686018427387904 → (F d a).getD (.agg (secA zeros)) = .agg (secA (s.last d a))) (hm : MapS w' m1 n (wipeF F d)) (hg : w.grownBy w' (some m1)) : RackK B w' r m1 m2 v (s.cleared d) k := by
  refine ⟨h.blk.grown hg (fun e => h.ne1 (by injection e with e; exact e.symm)), h.hr, h.h1, h.h2, h.ne, ⟨n, _, f1, hm, fun d' a' hd ha => ?_⟩, h.newest.grown hg (fun e => h.ne (by injection e with e; exact e.symm)), h.row.1, ?_⟩
  · show _ = Value.agg (secA (if d' = d then zeros else s.last d' a'))
    unfold wipeF
    by_cases e : d' = d
    · rw [if_pos e, if_pos e]
      rfl
    · rw [if_neg e, if_neg e]
      exact f3 d' a' hd ha
  · rcases h.row.2 with e | ⟨g, cap, cur, rfl, g1, g2, g3⟩
    · exact .inl e
    · exact .inr ⟨g, cap, cur, rfl, g1, (hg.block g (Array.getElem?_eq_some_iff.1 g2).1 (fun e => h.row_ne1 (by rw [← e]; rfl))).trans g2, g3⟩
theorem wpList_append_wait {w : World} {ops : Array Oper} {rest : List Oper} {o : Oper} {a : Act} {Q : Exit → Act → World → Prop} (hgd : o.guard = none) (s x : Operand) (ho : o.op = .call { callee := .builtin .append, args := #[s, x], argTypes := #[64, 64] })
    (B : Nat) (v : Value) (n : Nat) (xs : List Value) (hs : a.eval s = v) (hown : w.ownsRow B 89 130 v n xs) (g : Nat) (D A : Int) (X : Nat → Nat) (hx : a.eval x = .slice (some ⟨g, 0, none⟩) 1 1) (hb : Blk w g 89 (waitI D A X))
    (hn : n ≤ 1000000) (hB : B ≤ w.heap.size)
    (h : ∀ g' cap w', w'.ownsRow B 89 130 (.slice (some ⟨g', 0, none⟩) (n + 1) cap) (n + 1) (xs ++ (waitI D A X).toList) → w.grownBy w' v.ownBlock → wpList Tryz.prog ops Q rest (a.put o.dst (.slice (some ⟨g', 0, none⟩) (n + 1) cap)) w') : wpList Tryz.prog ops Q (o :: rest) a w :=
  wpList_plain hgd fun _ hK => wp_append_wait s x ho B v n xs hs hown g D A X hx hb hn hB fun g' cap w' h1 h2 _ _ => hK _ _ (h g' cap w' h1 h2)
theorem wpList_buildSliceX {w w' : World} {ops : Array Oper} {rest : List Oper} {op : Oper} {a : Act} {Q : Exit → Act → World → Prop} (hgd : op.guard = none) (ty : TypeId) (n i : Nat) (x : Operand) (ho : op.op = .buildSlice ty n #[(i, x)]) (u v : Value) (hx : a.eval x = u)
    (hl : (Instr.buildSlice ty n #[(i, u)]).run Tryz.prog w = .ok v w') (h : wpList Tryz.prog ops Q rest (a.put op.dst v) w') : wpList Tryz.prog ops Q (op :: rest) a w := by
  refine wpList_plain hgd fun K hK => ?_
  unfold Oper.wp
  rw [exec_buildSlice1 ho hx hl]
  exact hK _ _ h
theorem below_row {B : Nat} {a w w' : World} {v : Value} {n c : Nat} {xs : List Value} (h : Below B a w) (hr : w.ownsRow B 89 c v n xs) (hB : B ≤ w.heap.size) (hg : w.grownBy w' v.ownBlock) : Below B a w' :=
  h.trans ⟨hg.os, hg.tape, hg.output, hg.size, fun k hk => hg.block k (Nat.lt_of_lt_of_le hk hB) (fun e => by
    obtain ⟨h1, _⟩ := own_blk hr e.symm
    omega)⟩
theorem own_new {w w' : World} {B n c : Nat} {v : Value} {xs : List Value} (h : w.ownsRow B 89 c v n xs) (hb : Below w.heap.size w w') : w'.ownsRow B 89 c v n xs := by
  refine ⟨h.1, ?_⟩
  rcases h.2 with e | ⟨g, cap, cur, e, k1, k2, k3⟩
  · exact .inl e
  · exact .inr ⟨g, cap, cur, e, k1, (hb.block g (Array.getElem?_eq_some_iff.1 k2).1).trans k2, k3⟩
theorem box_int (w : World) (v : Int) : (Instr.box 3 (.int .i64 v)).run Tryz.prog w = .ok (.pointer (some ⟨w.heap.size, 0, none⟩)) (w.alloc (.cells #[.int .i64 v] 3)) := by kernel_rfl

set_option maxRecDepth 100000 in
set_option maxHeartbeats 1600000 in
theorem wipe_any {B : Nat} (w : World) (r : Nat) (s : RS) (d : Nat) (h : RackAt B w r s) (hd : d < s.nd) :
    Calls Tryz.prog 41 #[.pointer (some ⟨r, 0, none⟩), .int .i64 (d : Int)] w fun e w' => e = .returned (.tuple #[]) ∧ RackAt B w' r (s.wiped d) ∧ Keep B w w' := by
  have hBw := h.le
  have K1 := Lib.hid ((Keep.refl B w).alloc h.le (.cells #[.int .i64 (d : Int)] 3))
  obtain ⟨h0, m1, m2, v, hw⟩ := h
  have OK := Lib.hid h0
  have HW1 := hw.alloc (.cells #[.int .i64 (d : Int)] 3)
  have HW := Lib.hid HW1
  have c2 := HW1.c2
  have hnw := hw.nw_le
  have hcost := h0.cost
  have hbd := Lib.hid (Blk.new w 3 #[.int .i64 (d : Int)])
  have hbox := box_int
  clear h0 hw HW1
  go_enter Tryz.func41, Tryz.ntmps41
  go_wp2_with fail
  obtain ⟨n, F, f1, f2, f3⟩ := HW.out.last
  have F1 := Lib.hid f1
  have F3 := Lib.hid f3
  refine (delete_any _ m1 n F d w.heap.size f2 hbd.out).mono ?_
  rintro e w2 ⟨rfl, hm2, hg2⟩
  have R2 := Lib.hid (HW.out.cleared d f1 f3 hm2 hg2)
  have K2 := Lib.hid (K1.out.ofMap1 HW.out hg2)
  have hbd2 := Lib.hid (hbd.out.grown hg2 (fun e => by
    injection e with e
    exact (f2.ne_blk hbd.out) e.symm))
  clear f1 f2 f3 F1 F3 hm2 hg2 HW K1 c2 hbd hbox
  generalize w.heap.size = bd at *
  have c3 := R2.out.c3
  obtain ⟨A, c, hv3⟩ : ∃ A c, v = .slice A s.nw c := by
    rcases R2.out.row.2 with ⟨rfl, e⟩ | ⟨g, cap, cur, rfl, _⟩
    · exact ⟨none, 0, by rw [show s.nw = 0 from e]⟩
    · exact ⟨_, _, rfl⟩
  subst hv3
  have hrowA : Hid (0 < s.nw → ∃ g, A = some ⟨g, 0, none⟩) := by
    intro hn
    obtain ⟨g, cap, e⟩ := own_slice R2.out.row hn
    injection e with e _
    exact ⟨g, e⟩
  have hB2 := R2.out.le
  have N2 : Hid (Below w2.heap.size w2 w2) := Lib.hid (Below.refl _ _)
  have Y2 : Hid (w2.ownsRow w2.heap.size 89 130 (.slice none 0 0) (keptL s.W d 0).length (flatL (keptL s.W d 0))) := Lib.hid ⟨rfl, .inl ⟨rfl, rfl⟩⟩
  go_wp2_with fail
  go_loopw [4, 18] (fun y x wr => ∃ k : Nat, k ≤ s.nw ∧ x = .int .i64 k ∧ (∃ A' c', y = .slice A' (keptL s.W d k).length c') ∧ Hid (wr.ownsRow w2.heap.size 89 130 y (keptL s.W d k).length (flatL (keptL s.W d k))) ∧ Hid (Below w2.heap.size w2 wr)) (fun _ x _ => s.nw - (intOf x).toNat)
  case atStart => exact ⟨0, by omega, rfl, ⟨none, 0, rfl⟩, Y2, N2⟩
  case round =>
    obtain ⟨k, hk, rfl, ⟨A', c', hy⟩, Y3, N3⟩ := hrel
    subst hy
    clear Y2 N2 c3
    by_cases hlt2 : k < s.nw
    · obtain ⟨g, rfl⟩ := hrowA.out (by omega)
      have R3 := Lib.hid (R2.out.below N3.out)
      have hld := load_row (W := s.W) (g := g) (c := c) (n := s.nw) (by have := R3.out.row; exact this) hlt2
      have i1 : (0 : Int) ≤ (k : Int) := by omega
      have i2 : (k : Int) < (s.nw : Int) := by omega
      have hkl := keptL_le s.W d k
      go_wp2_with (refine wpList_loadX rfl 89 _ rfl _ _ rfl hld ?_; refine of_hid ?_)
      refine Lib.hid ?_
      refine wpList_allocX rfl 89 rfl _ (alloc_waiting _) ?_
      refine wpList_storeX rfl 89 (.tmp 6) (.tmp 21) rfl (.pointer (some ⟨wr.heap.size, 0, none⟩)) (.agg (waitA (s.W k))) rfl rfl (store_newW wr ⟨0, 0, zeros⟩ (s.W k)) ?_
      have hbx := Lib.hid (Blk.new wr 89 (waitA (s.W k)))
      have n4 : Below wr.heap.size wr (wr.alloc (.cells (waitA (s.W k)) 89)) := (Below.refl _ _).alloc (Nat.le_refl _) _
      have N4 := Lib.hid (N3.out.trans (n4.mono N3.out.size))
      have Y4 := Lib.hid (own_new Y3.out n4)
      have hbd4 := Lib.hid (hbd2.out.new_ N4.out)
      clear R3 hld n4 N3 Y3
      generalize wr.heap.size = bx at *
      generalize wr.alloc (.cells (waitA (s.W k)) 89) = w4 at *
      have p0 := wplace0 hbx.out
      have d0 : w4.cell? ⟨bd, 0, none⟩ = some (.int .i64 (d : Int)) := hbd4.out.cell 0
      have hld4 := load_blk hbx.out Tryz.underlying89 rfl (by rw [waitA_size]; exact isize_waiting)
      by_cases hdk : (s.W k).d = d
      · have t1 : ((s.W k).d = d) = True := by simp [hdk]
        have Y5 : Hid (w4.ownsRow w2.heap.size 89 130 (.slice A' (keptL s.W d k).length c') (keptL s.W d (k + 1)).length (flatL (keptL s.W d (k + 1)))) := by
          have e : keptL s.W d (k + 1) = keptL s.W d k := if_pos hdk
          rw [e]
          exact Y4
        have LEN : Hid ((keptL s.W d k).length = (keptL s.W d (k + 1)).length) := Lib.hid (by
          have e : keptL s.W d (k + 1) = keptL s.W d k := if_pos hdk
          rw [e])
        clear Y4 t1 hld4
        rw [hdk] at p0
        clear hdk
        go_wp2_with fail
        go_roundw
        case rel => exact ⟨k + 1, by omega, by go_num, ⟨A', c', by rw [LEN.out]⟩, Y5, N4⟩
        case measure => simp [intOf]; omega
      · have e : keptL s.W d (k + 1) = keptL s.W d k ++ [s.W k] := if_neg hdk
        have EL := Lib.hid e
        have t2 : ((s.W k).d = d) = False := by simp [hdk]
        have t3 : (((s.W k).d : Int) != (d : Int)) = true := by simp; omega
        have t4 : (((s.W k).d : Int) == (d : Int)) = false := by simp; omega
        clear e
        go_wp2_with (refine wpList_loadX rfl 89 _ rfl _ _ rfl hld4 ?_; refine of_hid ?_)
        refine Lib.hid ?_
        refine wpList_buildSliceX rfl 64 1 0 (.tmp 28) rfl (.agg (waitA (s.W k))) _ rfl (bs_waiting (s.W k).d (s.W k).a (s.W k).x w4) ?_
        have n5 : Below w4.heap.size w4 (w4.alloc (.cells (waitI (s.W k).d (s.W k).a (s.W k).x) 89)) := (Below.refl _ _).alloc (Nat.le_refl _) _
        have Y5 := Lib.hid (own_new Y4.out n5)
        have N5 := Lib.hid (N4.out.trans (n5.mono N4.out.size))
        refine wpList_append_wait rfl (.tmp 27) (.tmp 29) rfl w2.heap.size (.slice A' (keptL s.W d k).length c') (keptL s.W d k).length (flatL (keptL s.W d k)) rfl Y5.out w4.heap.size (s.W k).d (s.W k).a (s.W k).x rfl (Blk.new w4 _ _) (by omega) N5.out.size ?_
        intro g7 cap7 w7 hr7 hg7
        have N7 := Lib.hid (below_row N5.out Y5.out N5.out.size hg7)
        have Y7 : Hid (w7.ownsRow w2.heap.size 89 130 (.slice (some ⟨g7, 0, none⟩) ((keptL s.W d k).length + 1) cap7) (keptL s.W d (k + 1)).length (flatL (keptL s.W d (k + 1)))) := by
          rw [EL.out, flatL_snoc, List.length_append]
          exact hr7
        have LEN : Hid ((keptL s.W d k).length + 1 = (keptL s.W d (k + 1)).length) := Lib.hid (by rw [EL.out, List.length_append]; rfl)
        clear hr7 hg7 n5 Y5 N5 Y4 N4 p0 d0 hld4 hbx hbd4 t2 t3 t4 hdk EL
        go_wp2_with fail
        go_roundw
        case rel => exact ⟨k + 1, by omega, by go_num, ⟨_, _, by rw [LEN.out]⟩, Y7, N7⟩
        case measure => simp [intOf]; omega
    · have e : k = s.nw := by omega
      subst e
      have R3 := Lib.hid (R2.out.below N3.out)
      have hkl := keptL_le s.W d s.nw
      have hL : Hid (∃ n F, n + (s.wiped d).nw ≤ (s.wiped d).cost ∧ MapS wr m1 n F ∧ ∀ d' a, d' < 4611686018427387904 → a < 4611686018427387904 → (F d' a).getD (.agg (secA zeros)) = .agg (secA ((s.wiped d).last d' a))) := by
        obtain ⟨n, F, f1, f2, f3⟩ := R3.out.last
        refine ⟨n, F, ?_, f2, f3⟩
        have : n + s.nw ≤ s.cost := f1
        show n + (keptL s.W d s.nw).length ≤ s.cost
        omega
      have hY : Hid (wr.ownsRow B 89 130 (.slice A' (keptL s.W d s.nw).length c') (keptL s.W d s.nw).length (flat (s.wiped d).W (keptL s.W d s.nw).length)) := by
        have e : flat (s.wiped d).W (keptL s.W d s.nw).length = flatL (keptL s.W d s.nw) := flat_list _ _
        rw [e]
        exact own_base Y3.out hB2
      go_wp2_with fail
      refine (await_any B _ r m1 A' (keptL s.W d s.nw).length c' s (s.wiped d) ⟨rfl, rfl, rfl, rfl, rfl, rfl⟩ _ R3.out.blk (by simp [rackA]) (fun j hj j3 j4 => ?_) R3.out.hr R3.out.h1 R3.out.ne1 rfl hL.out hY.out (OK.out.wiped d)).mono ?_
      · rw [rackA_get _ _ _ _ hj]
        unfold rackCell
        rw [if_neg j3, if_neg j4, if_neg j3, if_neg j4]
        rfl
      rintro e w8 ⟨rfl, h8, k8⟩
      have H8 := Lib.hid h8
      have K8 := Lib.hid ((K2.out.new N3.out hB2).trans k8)
      clear h8 k8
      go_wp2_with fail
      go_end0
      exact ⟨rfl, H8.out, K8.out⟩

/-- drive d gone, or there -/
def RS.setGone (s : RS) (d : Nat) (b : Bool) : RS := { s with gone := fun i => if i = d then b else s.gone i }
theorem RackK.setGone {B : Nat} {w : World} {r m1 m2 k : Nat} {v : Value} {s : RS} (h : RackK B w r m1 m2 v s k) {d : Nat} (hd : d < 16) (b : Bool) : RackK B (w.setCell ⟨r, 5 + d, none⟩ (.bool b)) r m1 m2 v (s.setGone d b) k := by
  refine h.put (i := 5 + d) (by omega) ?_ (fun j hj hne => ?_) rfl rfl rfl rfl
  · unfold rackCell
    rw [if_neg (by omega), if_neg (by omega), if_neg (by omega), if_neg (by omega), if_neg (by omega), if_pos (by omega)]
    show Value.bool (if 5 + d - 5 = d then b else _) = _
    rw [if_pos (by omega)]
  · by_cases h1 : 5 ≤ j ∧ j < 21
    · unfold rackCell
      rw [if_neg (by omega), if_neg (by omega), if_neg (by omega), if_neg (by omega), if_neg (by omega), if_pos (by omega)]
      rw [if_neg (by omega), if_neg (by omega), if_neg (by omega), if_neg (by omega), if_neg (by omega), if_pos (by omega)]
      show Value.bool (if j - 5 = d then b else _) = _
      rw [if_neg (by omega)]
    · unfold rackCell
      by_cases h2 : j < 5
      · rcases (by omega : j = 0 ∨ j = 1 ∨ j = 2 ∨ j = 3 ∨ j = 4) with e | e | e | e | e <;> subst e <;> rfl
      · rcases (by omega : j = 21 ∨ j = 22 ∨ j = 23) with e | e | e <;> subst e <;> rfl
theorem RS.ok.setGone {s : RS} (h : s.ok) (d : Nat) (b : Bool) : (s.setGone d b).ok := ⟨h.nd1, h.nd2, h.ns1, h.ns2, h.left, h.cost, h.wp, h.lp⟩
def RS.lost (s : RS) (d : Nat) : RS := (s.wiped d).setGone d true
def RS.anew (s : RS) (d : Nat) : RS := (s.wiped d).setGone d false
theorem isD_nat {s : RS} {d : Nat} : s.isD (d : Int) = decide (d < s.nd) := by
  unfold RS.isD
  simp
set_option maxRecDepth 100000 in
set_option maxHeartbeats 800000 in
theorem lose_ok {B : Nat} (w : World) (r : Nat) (s : RS) (d : Nat) (h : RackAt B w r s) (hd : d < s.nd) :
    Calls Tryz.prog 14 #[.pointer (some ⟨r, 0, none⟩), .int .i64 (d : Int)] w fun e w' => e = .returned (.int .i64 0) ∧ RackAt B w' r (s.lost d) ∧ Keep B w w' := by
  have hh := has_any w r s (d : Int) h
  rw [isD_nat, show decide (d < s.nd) = true by simp [hd]] at hh
  have HH := Lib.hid hh
  have H := Lib.hid h
  have hd16 : (d : Int) < 16 := by have := h.1.nd2; omega
  have hd0 : (0 : Int) ≤ (d : Int) := by omega
  clear hh h
  go_enter Tryz.func14, Tryz.ntmps14
  go_wp2_with fail
  refine HH.out.mono ?_
  rintro e w' ⟨rfl, rfl⟩
  clear HH
  go_wp2_with fail
  refine (wipe_any w' r s d H.out hd).mono ?_
  rintro e w2 ⟨rfl, h2, k2⟩
  obtain ⟨h20, m1, m2, v, hw2⟩ := h2
  have cg := hw2.cg (d := d) (by omega)
  have fg := hw2.frozen (5 + d)
  have H3 := Lib.hid (hw2.setGone (d := d) (by omega) true)
  have K3 := Lib.hid (k2.setRack hw2.blk hw2.hr (5 + d) (.bool true))
  have O3 := Lib.hid (h20.setGone d true)
  clear h20 hw2 k2
  go_wp2_with fail
  go_ret
  exact ⟨rfl, ⟨O3.out, m1, m2, v, H3.out⟩, K3.out⟩
set_option maxRecDepth 100000 in
set_option maxHeartbeats 800000 in
theorem replace_ok {B : Nat} (w : World) (r : Nat) (s : RS) (d : Nat) (h : RackAt B w r s) (hd : d < s.nd) :
    Calls Tryz.prog 16 #[.pointer (some ⟨r, 0, none⟩), .int .i64 (d : Int)] w fun e w' => e = .returned (.int .i64 0) ∧ RackAt B w' r (s.anew d) ∧ Keep B w w' := by
  have hh := has_any w r s (d : Int) h
  rw [isD_nat, show decide (d < s.nd) = true by simp [hd]] at hh
  have HH := Lib.hid hh
  have H := Lib.hid h
  have hd16 : (d : Int) < 16 := by have := h.1.nd2; omega
  have hd0 : (0 : Int) ≤ (d : Int) := by omega
  clear hh h
  go_enter Tryz.func16, Tryz.ntmps16
  go_wp2_with fail
  refine HH.out.mono ?_
  rintro e w' ⟨rfl, rfl⟩
  clear HH
  go_wp2_with fail
  refine (wipe_any w' r s d H.out hd).mono ?_
  rintro e w2 ⟨rfl, h2, k2⟩
  obtain ⟨h20, m1, m2, v, hw2⟩ := h2
  have cg := hw2.cg (d := d) (by omega)
  have fg := hw2.frozen (5 + d)
  have H3 := Lib.hid (hw2.setGone (d := d) (by omega) false)
  have K3 := Lib.hid (k2.setRack hw2.blk hw2.hr (5 + d) (.bool false))
  have O3 := Lib.hid (h20.setGone d false)
  clear h20 hw2 k2
  go_wp2_with fail
  go_ret
  exact ⟨rfl, ⟨O3.out, m1, m2, v, H3.out⟩, K3.out⟩
set_option maxRecDepth 100000 in
theorem lose_no {B : Nat} (w : World) (r : Nat) (s : RS) (D : Int) (h : RackAt B w r s) (hd : s.isD D = false) :
    Calls Tryz.prog 14 #[.pointer (some ⟨r, 0, none⟩), .int .i64 D] w fun e w' => e = .returned (.int .i64 1) ∧ w' = w := by
  have hh := has_any w r s D h
  rw [hd] at hh
  have HH := Lib.hid hh
  clear hh h hd
  go_enter Tryz.func14, Tryz.ntmps14
  go_wp2_with fail
  refine HH.out.mono ?_
  rintro e w' ⟨rfl, rfl⟩
  go_wp2_with fail
  go_ret
  exact ⟨rfl, rfl⟩
set_option maxRecDepth 100000 in
theorem replace_no {B : Nat} (w : World) (r : Nat) (s : RS) (D : Int) (h : RackAt B w r s) (hd : s.isD D = false) :
    Calls Tryz.prog 16 #[.pointer (some ⟨r, 0, none⟩), .int .i64 D] w fun e w' => e = .returned (.int .i64 1) ∧ w' = w := by
  have hh := has_any w r s D h
  rw [hd] at hh
  have HH := Lib.hid hh
  clear hh h hd
  go_enter Tryz.func16, Tryz.ntmps16
  go_wp2_with fail
  refine HH.out.mono ?_
  rintro e w' ⟨rfl, rfl⟩
  go_wp2_with fail
  go_ret
  exact ⟨rfl, rfl⟩
end Go.Proofs.YthioanenljpclaaGreatDoor
