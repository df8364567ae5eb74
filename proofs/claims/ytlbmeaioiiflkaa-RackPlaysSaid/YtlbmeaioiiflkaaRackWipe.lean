/-
  'maps.DeleteFunc' as the rack calls it, by a contract. Conditions: the map is one of places and sectors.
-/
import Derived.Test.YtlbmeaioiiflkaaRackCrash
import Derived.Maps.RangeWalk
namespace Go.Proofs.Ytlbmeaioiiflkaa
open Go.RowKit
set_option linter.unusedVariables false

theorem box_sector (w : World) (cs : Array Value) : (Instr.box 57 (.agg cs)).run Try.prog w = .ok (.pointer (some ⟨w.heap.size, 0, none⟩)) (w.alloc (.cells cs 57)) := by kernel_rfl
theorem box_place (w : World) (cs : Array Value) : (Instr.box 54 (.agg cs)).run Try.prog w = .ok (.pointer (some ⟨w.heap.size, 0, none⟩)) (w.alloc (.cells cs 54)) := by kernel_rfl

set_option maxRecDepth 100000 in
set_option maxHeartbeats 400000 in
theorem pick_any (w : World) (i j D : Int) (cs : Array Value) (bd : Nat) (hb : Blk w bd 3 #[.int .i64 D]) :
    Calls Try.prog 41 #[.agg #[.int .i64 i, .int .i64 j], .agg cs, .pointer (some ⟨bd, 0, none⟩)] w fun e w' => e = .returned (.bool (i == D)) ∧ Below w.heap.size w w' := by
  have h1 := box_sector
  have h2 := box_place
  have c1 : ((w.alloc (.cells #[.int .i64 i, .int .i64 j] 54)).alloc (.cells cs 57)).cell? ⟨w.heap.size, 0, none⟩ = some (.int .i64 i) := ((Blk.new w 54 _).alloc _).cell 0
  have c2 : ((w.alloc (.cells #[.int .i64 i, .int .i64 j] 54)).alloc (.cells cs 57)).cell? ⟨bd, 0, none⟩ = some (.int .i64 D) := ((hb.alloc _).alloc _).cell 0
  have B2 := Lib.hid (((Below.refl w.heap.size w).alloc (Nat.le_refl _) (.cells #[.int .i64 i, .int .i64 j] 54)).alloc (by simp) (.cells cs 57))
  clear hb
  go_enter Try.func41, Try.ntmps41
  go_wp2_with fail
  go_ret
  exact ⟨rfl, B2.out⟩

/-- what is left of the sectors' map: nothing of drive d -/
def wipeF (F : Nat → Nat → Option Value) (d d' a' : Nat) : Option Value := if d' = d then none else F d' a'
def GoneTo (D0 D : DataW Value) (d : Nat) (left : Lit → Bool) : Prop :=
  Maps.IsMap D ∧ ∀ d' a', d' < 4611686018427387904 → a' < 4611686018427387904 → ∀ zd, D.atKey (klit d' a') zd = if d' = d ∧ left (klit d' a') = false then zd else D0.atKey (klit d' a') zd
theorem klit_of {key : Value} {kl : Lit} {i j : Int} (hk : keyOf Try.prog 54 key = some kl) (he : key = .agg #[.int .i64 i, .int .i64 j]) {d' a' : Nat} (hd : d' < 4611686018427387904) (ha : a' < 4611686018427387904) (h : klit d' a' = kl) : i = (d' : Int) ∧ j = (a' : Int) := by
  have h1 := key_ok hd ha
  rw [h] at h1
  have h2 := keyed.inj hk h1
  rw [he] at h2
  unfold pkey at h2
  simp at h2
  exact h2
theorem GoneTo.keep {D0 D : DataW Value} {d : Nat} {left : Lit → Bool} (h : GoneTo D0 D d left) {key : Value} {kl : Lit} {i j : Int} (hk : keyOf Try.prog 54 key = some kl) (he : key = .agg #[.int .i64 i, .int .i64 j]) (hi : i ≠ (d : Int)) :
    GoneTo D0 D d (fun z => left z && !z.sameKey kl) := by
  refine ⟨h.1, fun d' a' hd ha zd => ?_⟩
  rw [h.2 d' a' hd ha zd]
  by_cases e : klit d' a' = kl
  · have h2 := klit_of hk he hd ha e
    have h3 : ¬ d' = d := fun x => hi (by rw [h2.1, x])
    rw [if_neg (fun x => h3 x.1), if_neg (fun x => h3 x.1)]
  · have h4 : (klit d' a').sameKey kl = false := Maps.sameKey_ne e
    simp [h4]
theorem GoneTo.strike {D0 D : DataW Value} {d : Nat} {left : Lit → Bool} (h : GoneTo D0 D d left) {key : Value} {kl : Lit} {i j : Int} (hk : keyOf Try.prog 54 key = some kl) (he : key = .agg #[.int .i64 i, .int .i64 j]) (hi : i = (d : Int)) :
    GoneTo D0 (D.del kl) d (fun z => left z && !z.sameKey kl) := by
  refine ⟨h.1.del kl, fun d' a' hd ha zd => ?_⟩
  by_cases e : klit d' a' = kl
  · have h2 := klit_of hk he hd ha e
    have h3 : d' = d := by omega
    have h4 : kl.sameKey kl = true := WideAt.sameKey_self (keyed.key hk)
    rw [e, if_pos ⟨h3, by simp [h4]⟩, Maps.atKey_del_same]
  · have h4 : (klit d' a').sameKey kl = false := Maps.sameKey_ne e
    rw [Maps.atKey_del_other e, h.2 d' a' hd ha zd]
    simp [h4]

theorem grown_on {w a c : World} {b r : Nat} (h : w.grownBy a (some b)) (k : a.grownBy c (some r)) (hr : w.heap.size ≤ r) : w.grownBy c (some b) :=
  ⟨k.os.trans h.os, k.tape.trans h.tape, k.output.trans h.output, Nat.le_trans h.size k.size, fun i hi hne => (k.block i (Nat.lt_of_lt_of_le hi h.size) (fun e => by injection e with e; omega)).trans (h.block i hi hne)⟩
theorem grown_new {w a c : World} {b : Nat} (h : w.grownBy a (some b)) (k : Below a.heap.size a c) : w.grownBy c (some b) :=
  ⟨k.os.trans h.os, k.tape.trans h.tape, k.output.trans h.output, Nat.le_trans h.size k.size, fun i hi hne => (k.block i (Nat.lt_of_lt_of_le hi h.size)).trans (h.block i hi hne)⟩
theorem grown_trans {w a c : World} {b : Nat} (h : w.grownBy a (some b)) (k : a.grownBy c (some b)) : w.grownBy c (some b) :=
  ⟨k.os.trans h.os, k.tape.trans h.tape, k.output.trans h.output, Nat.le_trans h.size k.size, fun i hi hne => (k.block i (Nat.lt_of_lt_of_le hi h.size) hne).trans (h.block i hi hne)⟩
theorem ranges_new {w w' : World} {okv : Value → Bool} {b r n cnt : Nat} {D : DataW Value} {left : Lit → Bool} (h : w.ranges Try.prog 54 (RVp okv) b r n D left cnt) (k : Below w.heap.size w w') : w'.ranges Try.prog 54 (RVp okv) b r n D left cnt := by
  obtain ⟨es, clock, since, seen, c0, e1, e2, e3, e4, e5, e6⟩ := h
  exact ⟨es, clock, since, seen, c0, (k.block b (Array.getElem?_eq_some_iff.1 e1).1).trans e1, e2, e3, e4, (k.block r (Array.getElem?_eq_some_iff.1 e5).1).trans e5, e6⟩
theorem ranges_drew {w : World} {okv : Value → Bool} {b r n cnt : Nat} {D : DataW Value} {left : Lit → Bool} (h : w.ranges Try.prog 54 (RVp okv) b r n D left cnt) (k : Nat) : (w.drewN k).ranges Try.prog 54 (RVp okv) b r n D left cnt := h

set_option maxRecDepth 100000 in
set_option maxHeartbeats 1600000 in
theorem delete_any (w : World) (b n : Nat) (F : Nat → Nat → Option Value) (d bd : Nat) (h : MapS w b n F) (hb : Blk w bd 3 #[.int .i64 (d : Int)]) :
    Calls Try.prog 40 #[.map (some b), .func (.func 41) #[] #[.pointer (some ⟨bd, 0, none⟩)]] w fun e w' => e = .returned (.tuple #[]) ∧ MapS w' b n (wipeF F d) ∧ w.grownBy w' (some b) := by
  have hne : b ≠ bd := h.ne_blk hb
  have HN := Lib.hid hne
  have hbl := h.lt
  have hbdl := hb.lt
  obtain ⟨D, hown, him, hat⟩ := h
  have HAT := Lib.hid hat
  have HB := Lib.hid hb
  clear hat hb hne
  go_enter Try.func40, Try.ntmps40
  go_wp2_with (at_range; refine wpList_range_own _ rfl (.tmp 6) 47 rfl 54 57 keyed Try.underlying47 (RVp isSec) b n D rfl hown ?_; intro w0 hrg0 hg0 hs0)
  go_frame
  generalize hr : w.heap.size = r at *
  have RG := Lib.hid hrg0
  have G := Lib.hid hg0
  have ST : Hid (GoneTo D D d (Maps.has D)) := Lib.hid ⟨him, fun d' a' hd ha zd => by
    split
    · rename_i hx
      exact Maps.atKey_of_not_has hx.2 zd
    · rfl⟩
  have G0 := Lib.hid (G.out.but (some b))
  have hsz : r + 1 ≤ w0.heap.size := by omega
  have HR : Hid (r = w.heap.size) := Lib.hid hr.symm
  clear hrg0 hg0 hs0 hr G
  go_loopw [] (fun wr => ∃ (left : Lit → Bool) (cnt : Nat) (D' : DataW Value), Hid (wr.ranges Try.prog 54 (RVp isSec) b r n D' left cnt) ∧ Hid (w.grownBy wr (some b)) ∧ r + 1 ≤ wr.heap.size ∧ Hid (GoneTo D D' d left)) (fun wr => wr.rangeLeft b r)
  case atStart => exact ⟨_, _, D, RG, G0, hsz, ST⟩
  case round =>
    obtain ⟨left, cnt, D', RG1, G1, hsz1, ST1⟩ := hrel
    clear RG G0 ST hsz
    have LE1 : Hid (wr.rangeLeft b r = cnt) := Lib.hid RG1.out.left_eq
    go_wp2_with (at_next; refine wpList_next_ranges (w := wr) rfl (.tmp 7) rfl 54 keyed (RVp isSec) (id : Value → Value) (id : Value → Value) (fun key kl _ => ⟨key, rfl⟩) (fun v y _ => ⟨v, rfl⟩) b r n D' left cnt rfl RG1.out ?_ ?_)
    · intro hc0 hl0
      have ME : Hid (MapS wr b n (wipeF F d)) := by
        refine ⟨D', RG1.out.owns, ST1.out.1, fun d' a' hd ha zd => ?_⟩
        rw [ST1.out.2 d' a' hd ha zd, HAT.out d' a' hd ha zd]
        unfold wipeF
        by_cases e : d' = d
        · rw [if_pos ⟨e, hl0 _⟩, if_pos e]
          rfl
        · rw [if_neg (fun x => e x.1), if_neg e]
      clear hl0 hc0 RG1 ST1
      go_wp2_with fail
      go_end0
      exact ⟨rfl, ME.out, G1.out⟩
    · intro x c kl y ps w1 cnt1 hkey hlk hv hat hrg hlt hgr hs1 hen
      obtain ⟨i, j, rfl⟩ := key_inv hkey
      obtain ⟨hsec, _⟩ := RVp_inv hv
      obtain ⟨cs, rfl, hcs, hc1⟩ := isSec_inv hsec
      have KEY := Lib.hid hkey
      have RG2 := Lib.hid hrg
      have G2 : Hid (w.grownBy w1 (some b)) := Lib.hid (grown_on G1.out hgr (by have := HR.out; omega))
      have hsz2 : r + 1 ≤ w1.heap.size := by omega
      have hrl := Lib.hid hlt
      clear hkey hv hat hrg hlt hgr hs1 hsec RG1 G1
      go_wp2_with (refine wpList_allocX rfl 57 rfl _ (alloc_sector _) ?_; refine of_hid ?_)
      refine Lib.hid ?_
      refine wpList_storeBlk rfl 54 (.tmp 4) (.tmp 11) rfl w1.heap.size #[.int .i64 0, .int .i64 0] #[.int .i64 i, .int .i64 j] rfl rfl ((Blk.new w1 54 _).alloc _) isize_place rfl (by simp [Value.oneCell']) ?_
      intro w2 hb2 hg2 hs2
      have hbs : Blk w2 (w1.heap.size + 1) 57 (secA zeros) := (blk_new2 w1 (.cells #[.int .i64 0, .int .i64 0] 54) (secA zeros) 57).grown hg2 (fun e => by injection e with e; omega)
      refine wpList_storeBlk rfl 57 (.tmp 5) (.tmp 12) rfl (w1.heap.size + 1) (secA zeros) cs rfl rfl hbs (by rw [hcs]; exact isize_sector) (by rw [hcs, secA_size]) hc1 ?_
      intro w3 hb3 hg3 hs3
      have n1 : Below w1.heap.size w1 ((w1.alloc (.cells #[.int .i64 0, .int .i64 0] 54)).alloc (.cells (secA zeros) 57)) := ((Below.refl w1.heap.size w1).alloc (Nat.le_refl _) _).alloc (by simp) _
      have n2 : Below w1.heap.size w1 w2 := n1.trans ⟨hg2.os, hg2.tape, hg2.output, hg2.size, fun k hk => hg2.block k (by simp; omega) (fun e => by injection e with e; omega)⟩
      have n3 : Below w1.heap.size w1 w3 := n2.trans ⟨hg3.os, hg3.tape, hg3.output, hg3.size, fun k hk => hg3.block k (Nat.lt_of_lt_of_le hk n2.size) (fun e => by injection e with e; omega)⟩
      have P3 := hb2.grown hg3 (fun e => by injection e with e; omega)
      have p0 : w3.cell? ⟨w1.heap.size, 0, none⟩ = some (.int .i64 i) := P3.cell 0
      have p1 : w3.cell? ⟨w1.heap.size, 1, none⟩ = some (.int .i64 j) := P3.cell 1
      have hl3 := load_blk hb3 Try.underlying57 rfl (by rw [hcs]; exact isize_sector)
      have RG3 := Lib.hid (ranges_new RG2.out n3)
      have G3 := Lib.hid (grown_new G2.out n3)
      have HB3 := Lib.hid (HB.out.grown G3.out (fun e => HN.out (by injection e with e; exact e.symm)))
      have hsz3 : r + 1 ≤ w3.heap.size := Nat.le_trans hsz2 n3.size
      have HP3 := Lib.hid P3
      have hbx3 := P3.lt
      clear hb2 hg2 hs2 hbs hb3 hg3 hs3 n1 n2 n3 P3 RG2 G2 hen
      generalize w1.heap.size = bx at *
      go_wp2_with (refine wpList_loadX rfl 57 _ rfl _ _ rfl hl3 ?_; refine of_hid ?_)
      refine Lib.hid ?_
      go_wp2_with fail
      refine (pick_any w3 i j (d : Int) cs bd HB3.out).mono ?_
      rintro e w4 ⟨rfl, b4⟩
      have RG4 := Lib.hid (ranges_new RG3.out b4)
      have G4 := Lib.hid (grown_new G3.out b4)
      have hsz4 : r + 1 ≤ w4.heap.size := Nat.le_trans hsz3 b4.size
      have HP4 := Lib.hid (HP3.out.new_ b4)
      clear b4 RG3 G3 HP3 p0 p1 hl3 HB3
      by_cases hi : i = (d : Int)
      · rw [show (i == (d : Int)) = true from by simp [hi]]
        have ST2 := Lib.hid (ST1.out.strike KEY.out rfl hi)
        have p0 : w4.cell? ⟨bx, 0, none⟩ = some (.int .i64 i) := HP4.out.cell 0
        have p1 : w4.cell? ⟨bx, 1, none⟩ = some (.int .i64 j) := HP4.out.cell 1
        clear hi ST1
        go_wp2_with ((with_reducible refine wpList_delete_ranges w4 rfl (.tmp 17) (.tmp 18) 47 54 rfl 57 keyed Try.underlying47 (RVp isSec) b r n D' _ cnt1 rfl RG4.out (.agg #[.int .i64 i, .int .i64 j]) kl rfl KEY.out ?_); intro w5 cnt5 hrg5 hle5 hmt5)
        rw [Maps.strike_twice] at hrg5
        have LE5 := hrg5.left_eq
        have G5 := grown_trans G4.out hmt5.grown
        have hsz5 : r + 1 ≤ w5.heap.size := Nat.le_trans hsz4 hmt5.grown.size
        refine ⟨⟨_, _, _, _, _, _, _, _, _, _, _, _, _, ⟨_, _, _, Lib.hid hrg5, Lib.hid G5, hsz5, ST2⟩, rfl⟩, ?_⟩
        rw [LE5, LE1.out]
        exact Nat.lt_of_le_of_lt hle5 hrl.out
      · rw [show (i == (d : Int)) = false from by simp [hi]]
        have ST2 := Lib.hid (ST1.out.keep KEY.out rfl hi)
        clear hi ST1
        have LE4 := Lib.hid RG4.out.left_eq
        go_wp2_with fail
        go_roundw
        case rel => exact ⟨_, _, D', RG4, G4, hsz4, ST2⟩
        case measure => rw [LE4.out, LE1.out]; exact hrl.out
end Go.Proofs.Ytlbmeaioiiflkaa
