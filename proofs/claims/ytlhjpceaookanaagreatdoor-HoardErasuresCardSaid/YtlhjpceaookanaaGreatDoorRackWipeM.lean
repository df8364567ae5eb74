/-
  'rack.Crash' by a contract. Conditions: the rack is one; the picks lie in no block of a rack's.
-/
import Derived.Test.YtlhjpceaookanaaGreatDoorRackFlushM
import Derived.Maps.RangeWalk
namespace Go.Proofs.YtlhjpceaookanaaGreatDoor
set_option maxRecDepth 100000
open Go.RowKit
set_option linter.unusedVariables false

/-- a slice of n ints -/
def Ints (w : World) (A : Option Addr) (n : Nat) (p : Nat → Int) : Prop :=
  (∀ i, i < n → -9223372036854775808 ≤ p i ∧ p i ≤ 9223372036854775807) ∧ n ≤ maxLen ∧ (n = 0 ∨ ∃ g o t cs, A = some ⟨g, o, none⟩ ∧ Blk w g t cs ∧ (t == 62 || t == 73) = false ∧ ∀ i, i < n → cs[o + i]? = some (.int .i64 (p i)))
theorem Ints.keep {B : Nat} {w w' : World} {A : Option Addr} {n : Nat} {p : Nat → Int} (h : Ints w A n p) (hk : Keep B w w') : Ints w' A n p := by
  obtain ⟨h1, h2, h3⟩ := h
  refine ⟨h1, h2, ?_⟩
  rcases h3 with h3 | ⟨g, o, t, cs, h4, h5, h6, h7⟩
  · exact .inl h3
  · exact .inr ⟨g, o, t, cs, h4, hk.block h5 h6, h6, h7⟩
/-- which of those that wait a crash keeps -/
def odd (n : Nat) (p : Nat → Int) (i : Nat) : Bool := decide (i < n) && !decide ((p i).tmod 2 = 0)
def RS.crashed (s : RS) (P : Nat → Bool) : RS := { s.laid P with off := false, armed := false, left := 0 }
theorem RS.ok.crashed {s : RS} (h : s.ok) (P : Nat → Bool) : (s.crashed P).ok := by
  have := h.laid P
  exact ⟨this.nd1, this.nd2, this.ns1, this.ns2, Nat.zero_le _, this.cost, this.wp, this.lp⟩

theorem RackK.crashed3 {B : Nat} {w : World} {r m1 m2 k : Nat} {v : Value} {s : RS} (h : RackK B w r m1 m2 v s k) :
    RackK B (((w.setCell ⟨r, 21, none⟩ (.bool false)).setCell ⟨r, 22, none⟩ (.bool false)).setCell ⟨r, 23, none⟩ (.int .i64 0)) r m1 m2 v { s with off := false, armed := false, left := 0 } k := by
  have h1 : RackK B (w.setCell ⟨r, 21, none⟩ (.bool false)) r m1 m2 v { s with off := false } k := h.put (i := 21) (by omega) rfl (fun j hj hne => by unfold rackCell; simp [hne]) rfl rfl rfl rfl
  have h2 : RackK B ((w.setCell ⟨r, 21, none⟩ (.bool false)).setCell ⟨r, 22, none⟩ (.bool false)) r m1 m2 v { s with off := false, armed := false } k := h1.put (i := 22) (by omega) rfl (fun j hj hne => by unfold rackCell; simp [hne]) rfl rfl rfl rfl
  refine h2.put (i := 23) (by omega) rfl (fun j hj hne => ?_) rfl rfl rfl rfl
  unfold rackCell
  by_cases e1 : j = 21
  · subst e1; rfl
  by_cases e2 : j = 22
  · subst e2; rfl
  by_cases e3 : j < 21
  · simp [e3]
  · omega

set_option maxRecDepth 100000 in
set_option maxHeartbeats 1600000 in
theorem crash_any {B : Nat} (w : World) (r : Nat) (s1 : RS) (pa : Option Addr) (pn pc : Nat) (p : Nat → Int) (h : RackAt B w r s1) (hp : Ints w pa pn p) :
    Calls Tryz.prog 49 #[.pointer (some ⟨r, 0, none⟩), .slice pa pn pc] w fun e w' => e = .returned (.tuple #[]) ∧ RackAt B w' r (s1.crashed (odd pn p)) ∧ Keep B w w' := by
  obtain ⟨h0, m1, m2, v, hw⟩ := h
  have OK1 := Lib.hid h0
  have HW1 := Lib.hid hw
  have HP := Lib.hid hp
  clear h0 hw hp
  have c3 := HW1.out.c3
  have hcost := OK1.out.cost
  have hnw := HW1.out.nw_le
  obtain ⟨A, c, hv3⟩ : ∃ A c, v = .slice A s1.nw c := by
    rcases HW1.out.row.2 with ⟨rfl, e⟩ | ⟨g, cap, cur, rfl, _⟩
    · exact ⟨none, 0, by rw [e]⟩
    · exact ⟨_, _, rfl⟩
  subst hv3
  have hrowA : Hid (0 < s1.nw → ∃ g, A = some ⟨g, 0, none⟩) := by
    intro hn
    obtain ⟨g, cap, e⟩ := own_slice HW1.out.row hn
    injection e with e _
    exact ⟨g, e⟩
  have R : Hid (RackK B w r m1 m2 (.slice A s1.nw c) (s1.mid (odd pn p) 0) s1.nw) := Lib.hid HW1.out.atMid
  have K : Hid (Keep B w w) := Keep.refl B w
  clear HW1
  generalize hN : s1.nw = N at *
  have hpn : pn ≤ maxLen := HP.out.2.1
  unfold maxLen at hpn
  go_enter Tryz.func49, Tryz.ntmps49
  go_wp2_with fail
  go_loopw [13] (fun x wr => ∃ k : Nat, k ≤ N ∧ x = .int .i64 k ∧ Hid (RackK B wr r m1 m2 (.slice A N c) (s1.mid (odd pn p) k) N) ∧ Hid (Keep B w wr)) (fun x _ => N - (intOf x).toNat)
  case atStart => exact ⟨0, by omega, rfl, R, K⟩
  case round =>
    obtain ⟨k, hk, rfl, R1, K1⟩ := hrel
    clear R K c3
    by_cases hlt2 : k < N
    · obtain ⟨g, rfl⟩ := hrowA.out (by omega)
      have hld := load_row (W := s1.W) (g := g) (c := c) (n := N) (by have := R1.out.row; rw [← hN]; rw [← hN] at this; exact this) hlt2
      have i1 : (0 : Int) ≤ (k : Int) := by omega
      have i2 : (k : Int) < (N : Int) := by omega
      have HN := Lib.hid hN
      clear hN
      go_wp2_with (refine wpList_loadX rfl 73 _ rfl _ _ rfl hld ?_; refine of_hid ?_)
      refine Lib.hid ?_
      refine wpList_allocX rfl 73 rfl _ (alloc_waiting _) ?_
      refine wpList_assignX rfl _ rfl _ rfl ?_
      refine wpList_storeX rfl 73 (.tmp 5) (.tmp 17) rfl (.pointer (some ⟨wr.heap.size, 0, none⟩)) (.agg (waitA (s1.W k))) rfl rfl (store_newW wr ⟨0, 0, zeros⟩ (s1.W k)) ?_
      have hbx := Lib.hid (Blk.new wr 73 (waitA (s1.W k)))
      have R2 := Lib.hid (R1.out.alloc (.cells (waitA (s1.W k)) 73))
      have K2 := Lib.hid (K1.out.alloc R1.out.le (.cells (waitA (s1.W k)) 73))
      generalize wr.heap.size = bx at *
      clear R1 K1 hld
      generalize wr.alloc (.cells (waitA (s1.W k)) 73) = w2 at *
      obtain ⟨n, F, f1, f2, f3⟩ := R2.out.last
      have F1 := Lib.hid f1
      have F2 := Lib.hid f2
      have F3 := Lib.hid f3
      have hnm : n < maxLen := by
        have : n + s1.nw ≤ s1.cost + k := f1
        simp only [maxLen]
        have := HN.out
        omega
      have hwd : (s1.W k).d < 4611686018427387904 := by have := OK1.out.nd2; have := (OK1.out.wp k (by rw [HN.out]; exact hlt2)).1; omega
      have hwa : (s1.W k).a < 4611686018427387904 := by have := OK1.out.ns2; have := (OK1.out.wp k (by rw [HN.out]; exact hlt2)).2.1; omega
      clear f1 f2 f3
      have HS2 := Lib.hid (⟨R2.out.c2, hbx.out⟩ : LayS r m1 bx (waitA (s1.W k)) w2)
      have P2 := Lib.hid (HP.out.keep K2.out)
      by_cases hkp : k < pn
      rotate_left
      · have t1 : decide (k < pn) = false := by simp; omega
        have hodd : odd pn p k = false := by unfold odd; simp [hkp]
        have R3 : Hid (RackK B w2 r m1 m2 (.slice (some ⟨g, 0, none⟩) N c) (s1.mid (odd pn p) (k + 1)) N) := by
          rw [← HN.out]
          have R2' := R2.out
          rw [← HN.out] at R2'
          exact R2'.skipMid hodd
        clear hodd hkp
        go_wp2_with fail
        go_roundw
        case rel => exact ⟨k + 1, by omega, by go_num, R3, K2⟩
        case measure => simp [intOf]; omega
      have t1 : decide (k < pn) = true := by simp; omega
      obtain ⟨pg, po, pt, pcs, hpa, pb, _, pv⟩ := P2.out.2.2.resolve_left (by omega)
      subst hpa
      have pcell := (pb.cell (po + k)).trans (pv k hkp)
      have pbd := P2.out.1 k hkp
      have pb1 := pbd.1
      have pb2 := pbd.2
      have i3 : (k : Int) < (pn : Int) := by omega
      clear pb pv pbd
      by_cases hod : (p k).tmod 2 = 0
      · have hodd : odd pn p k = false := by unfold odd; simp [hod]
        have R3 : Hid (RackK B w2 r m1 m2 (.slice (some ⟨g, 0, none⟩) N c) (s1.mid (odd pn p) (k + 1)) N) := by
          rw [← HN.out]
          have R2' := R2.out
          rw [← HN.out] at R2'
          exact R2'.skipMid hodd
        clear hodd
        go_wp2_with fail
        go_roundw
        case rel => exact ⟨k + 1, by omega, by go_num, R3, K2⟩
        case measure => simp [intOf]; omega
      have hodd : odd pn p k = true := by unfold odd; simp [hod, hkp]
      have HO := Lib.hid hodd
      clear hodd
      go_wp2_with fail
      refine region_anyZ (LayS r m1 bx (waitA (s1.W k))) 8 (by kernel_rfl) ?_
      refine takeMove 0 (.tmp 0) (some 30) (.pointer (some ⟨r, 0, none⟩)) (by kernel_rfl) (by kernel_rfl) (by kernel_rfl) (fun _ _ _ h => h) HS2.out ?_
      refine takeNil 1 (.tmp 30) (some 31) ⟨r, 0, none⟩ (by kernel_rfl) (by kernel_rfl) (by kernel_rfl) (fun _ _ _ h => h) HS2.out ?_
      refine takeField 2 62 (.tmp 31) 2 (some 32) (.pointer (some ⟨r, 0, none⟩)) (.pointer (some ⟨r, 2, none⟩)) (by kernel_rfl) (by kernel_rfl) (by kernel_rfl) (fun w => by kernel_rfl) (fun _ _ _ h => h) HS2.out ?_
      refine takeLoad 3 57 (.tmp 32) (some 33) _ (.map (some m1)) (by kernel_rfl) (by kernel_rfl) (by kernel_rfl) (fun w hS => load_one Tryz.underlying57 rfl hS.1) (fun _ _ _ h => h) HS2.out ?_
      refine takeField 4 73 (.tmp 5) 0 (some 34) (.pointer (some ⟨bx, 0, none⟩)) (.pointer (some ⟨bx, 0, none⟩)) (by kernel_rfl) (by kernel_rfl) (by kernel_rfl) (fun w => by kernel_rfl) (fun _ _ _ h => h) HS2.out ?_
      refine takeLoad 5 64 (.tmp 34) (some 35) _ (pkey (s1.W k).d (s1.W k).a) (by kernel_rfl) (by kernel_rfl) (by kernel_rfl) (fun w hS => load_wplace hS.2) (fun _ _ _ h => h) HS2.out ?_
      refine takeField 6 73 (.tmp 5) 1 (some 36) (.pointer (some ⟨bx, 0, none⟩)) (.pointer (some ⟨bx, 2, none⟩)) (by kernel_rfl) (by kernel_rfl) (by kernel_rfl) (fun w => by kernel_rfl) (fun _ _ _ h => h) HS2.out ?_
      refine takeLoad 7 68 (.tmp 36) (some 37) _ (.agg (secA (s1.W k).x)) (by kernel_rfl) (by kernel_rfl) (by kernel_rfl) (fun w hS => load_wsector hS.2) (fun _ _ _ h => h) HS2.out ?_
      refine lastOp 8 (.mapUpdate 57 (.tmp 33) (.tmp 35) (.tmp 37)) none (by kernel_rfl) (by kernel_rfl) (by kernel_rfl) rfl ?_
      intro o ho hod
      refine wp_mapPut (.tmp 33) (.tmp 35) (.tmp 37) 57 68 ho Tryz.underlying57 m1 n F (by kernel_rfl) (F2.out.drew) hnm (s1.W k).d (s1.W k).a hwd hwa (.agg (secA (s1.W k).x)) (by kernel_rfl) (by kernel_rfl) (isSec_sec _) ?_
      rw [hod]
      clear hod ho
      intro w3 hm3 hg3 hs3
      have R3 : Hid (RackK B w3 r m1 m2 (.slice (some ⟨g, 0, none⟩) N c) (s1.mid (odd pn p) (k + 1)) N) := by
        rw [← HN.out]
        have R2' := R2.out
        rw [← HN.out] at R2'
        exact R2'.drew.layMid HO.out n F (F1.out) F3.out hg3 hm3
      have K3 : Hid (Keep B w w3) := K2.out.drew.ofMap1 R2.out.drew hg3
      clear hm3 hg3 hs3 R2 K2 HS2 F1 F2 F3 hbx
      go_wp2_with fail
      go_roundw
      case rel => exact ⟨k + 1, by omega, by go_num, R3, K3⟩
      case measure => simp [intOf]; omega
    · have e : k = N := by omega
      subst e
      have HN := Lib.hid hN
      clear hN
      have R0 := R1.out
      obtain ⟨n, F, f1, f2, f3⟩ := R0.last
      have hL : Hid (∃ n F, n ≤ s1.cost ∧ MapS wr m1 n F ∧ ∀ d a, d < 4611686018427387904 → a < 4611686018427387904 → (F d a).getD (.agg (secA zeros)) = .agg (secA ((s1.laid (odd pn p)).last d a))) := by
        refine ⟨n, F, ?_, f2, fun d a hd ha => ?_⟩
        · have : n + s1.nw ≤ s1.cost + k := f1
          have := HN.out
          omega
        · rw [f3 d a hd ha, ← HN.out]
          rfl
      clear R0 f1 f2 f3
      go_wp2_with fail
      refine (await_nil B _ r m1 (s1.mid (odd pn p) k) (s1.laid (odd pn p)) _ ⟨rfl, rfl, rfl, rfl, rfl, rfl⟩ m2 R1.out.blk R1.out.hr R1.out.h1 R1.out.ne1 rfl hL.out (OK1.out.laid _)).mono ?_
      rintro e w2 ⟨rfl, h2, k2⟩
      have K2 := Lib.hid (K1.out.trans k2)
      clear k2 R1 K1
      obtain ⟨_, n1, n2, v2, hw2⟩ := h2
      have c21 := hw2.c21
      have c22 := hw2.c22
      have c23 := hw2.c23
      have f21 := hw2.frozen 21
      have f22 := hw2.frozen 22
      have f23 := hw2.frozen 23
      have H4 := Lib.hid (hw2.crashed3)
      have K4 := Lib.hid (((K2.out.setRack hw2.blk hw2.hr 21 (.bool false)).setRack (hw2.blk.set_ 21 _) hw2.hr 22 (.bool false)).setRack ((hw2.blk.set_ 21 _).set_ 22 _) hw2.hr 23 (.int .i64 0))
      clear hw2
      go_wp2_with fail
      go_end0
      exact ⟨rfl, ⟨OK1.out.crashed _, n1, n2, v2, H4.out⟩, K4.out⟩
end Go.Proofs.YtlhjpceaookanaaGreatDoor
namespace Go.Proofs.YtlhjpceaookanaaGreatDoor
set_option maxRecDepth 100000
open Go.RowKit
set_option linter.unusedVariables false

theorem box_sector (w : World) (cs : Array Value) : (Instr.box 68 (.agg cs)).run Tryz.prog w = .ok (.pointer (some ⟨w.heap.size, 0, none⟩)) (w.alloc (.cells cs 68)) := by kernel_rfl
theorem box_place (w : World) (cs : Array Value) : (Instr.box 64 (.agg cs)).run Tryz.prog w = .ok (.pointer (some ⟨w.heap.size, 0, none⟩)) (w.alloc (.cells cs 64)) := by kernel_rfl

set_option maxRecDepth 100000 in
set_option maxHeartbeats 400000 in
theorem pick_any (w : World) (i j D : Int) (cs : Array Value) (bd : Nat) (hb : Blk w bd 3 #[.int .i64 D]) :
    Calls Tryz.prog 75 #[.agg #[.int .i64 i, .int .i64 j], .agg cs, .pointer (some ⟨bd, 0, none⟩)] w fun e w' => e = .returned (.bool (i == D)) ∧ Below w.heap.size w w' := by
  have h1 := box_sector
  have h2 := box_place
  have c1 : ((w.alloc (.cells #[.int .i64 i, .int .i64 j] 64)).alloc (.cells cs 68)).cell? ⟨w.heap.size, 0, none⟩ = some (.int .i64 i) := ((Blk.new w 64 _).alloc _).cell 0
  have c2 : ((w.alloc (.cells #[.int .i64 i, .int .i64 j] 64)).alloc (.cells cs 68)).cell? ⟨bd, 0, none⟩ = some (.int .i64 D) := ((hb.alloc _).alloc _).cell 0
  have B2 := Lib.hid (((Below.refl w.heap.size w).alloc (Nat.le_refl _) (.cells #[.int .i64 i, .int .i64 j] 64)).alloc (by simp) (.cells cs 68))
  clear hb
  go_enter Tryz.func75, Tryz.ntmps75
  go_wp2_with fail
  go_ret
  exact ⟨rfl, B2.out⟩

/-- what is left of the sectors' map: nothing of drive d -/
def wipeF (F : Nat → Nat → Option Value) (d d' a' : Nat) : Option Value := if d' = d then none else F d' a'
def GoneTo (D0 D : DataW Value) (d : Nat) (left : Lit → Bool) : Prop :=
  Maps.IsMap D ∧ ∀ d' a', d' < 4611686018427387904 → a' < 4611686018427387904 → ∀ zd, D.atKey (klit d' a') zd = if d' = d ∧ left (klit d' a') = false then zd else D0.atKey (klit d' a') zd
theorem klit_of {key : Value} {kl : Lit} {i j : Int} (hk : keyOf Tryz.prog 64 key = some kl) (he : key = .agg #[.int .i64 i, .int .i64 j]) {d' a' : Nat} (hd : d' < 4611686018427387904) (ha : a' < 4611686018427387904) (h : klit d' a' = kl) : i = (d' : Int) ∧ j = (a' : Int) := by
  have h1 := key_ok hd ha
  rw [h] at h1
  have h2 := keyed.inj hk h1
  rw [he] at h2
  unfold pkey at h2
  simp at h2
  exact h2
theorem GoneTo.keep {D0 D : DataW Value} {d : Nat} {left : Lit → Bool} (h : GoneTo D0 D d left) {key : Value} {kl : Lit} {i j : Int} (hk : keyOf Tryz.prog 64 key = some kl) (he : key = .agg #[.int .i64 i, .int .i64 j]) (hi : i ≠ (d : Int)) :
    GoneTo D0 D d (fun z => left z && !z.sameKey kl) := by
  refine ⟨h.1, fun d' a' hd ha zd => ?_⟩
  rw [h.2 d' a' hd ha zd]
  by_cases e : klit d' a' = kl
  · have h2 := klit_of hk he hd ha e
    have h3 : ¬ d' = d := fun x => hi (by rw [h2.1, x])
    rw [if_neg (fun x => h3 x.1), if_neg (fun x => h3 x.1)]
  · have h4 : (klit d' a').sameKey kl = false := Maps.sameKey_ne e
    simp [h4]
theorem GoneTo.strike {D0 D : DataW Value} {d : Nat} {left : Lit → Bool} (h : GoneTo D0 D d left) {key : Value} {kl : Lit} {i j : Int} (hk : keyOf Tryz.prog 64 key = some kl) (he : key = .agg #[.int .i64 i, .int .i64 j]) (hi : i = (d : Int)) :
    GoneTo D0 (D.del kl) d (fun z => left z && !z.sameKey kl) := by
  refine ⟨h.1.del kl, fun d' a' hd ha zd => ?_⟩
  by_cases e : klit d' a' = kl
  · have h2 := klit_of hk he hd ha e
    have h3 : d' = d := by omega
    have h4 : kl.sameKey kl = true := WideAt.sameKey_self (keyed.key hk)
    rw [e, if_pos ⟨h3, by simp [h4]⟩, Maps.atKey_del_same]
  · have h4 : (klit d' a').sameKey kl = false := Maps.sameKey_ne e
    rw [Maps.atKey_del_other e, h.2 d' a' hd ha zd]
    simp [h4]

theorem grown_on {w a c : World} {b r : Nat} (h : w.grownBy a (some b)) (k : a.grownBy c (some r)) (hr : w.heap.size ≤ r) : w.grownBy c (some b) :=
  ⟨k.os.trans h.os, k.tape.trans h.tape, k.output.trans h.output, Nat.le_trans h.size k.size, fun i hi hne => (k.block i (Nat.lt_of_lt_of_le hi h.size) (fun e => by injection e with e; omega)).trans (h.block i hi hne)⟩
theorem grown_new {w a c : World} {b : Nat} (h : w.grownBy a (some b)) (k : Below a.heap.size a c) : w.grownBy c (some b) :=
  ⟨k.os.trans h.os, k.tape.trans h.tape, k.output.trans h.output, Nat.le_trans h.size k.size, fun i hi hne => (k.block i (Nat.lt_of_lt_of_le hi h.size)).trans (h.block i hi hne)⟩
theorem grown_trans {w a c : World} {b : Nat} (h : w.grownBy a (some b)) (k : a.grownBy c (some b)) : w.grownBy c (some b) :=
  ⟨k.os.trans h.os, k.tape.trans h.tape, k.output.trans h.output, Nat.le_trans h.size k.size, fun i hi hne => (k.block i (Nat.lt_of_lt_of_le hi h.size) hne).trans (h.block i hi hne)⟩
theorem ranges_new {w w' : World} {okv : Value → Bool} {b r n cnt : Nat} {D : DataW Value} {left : Lit → Bool} (h : w.ranges Tryz.prog 64 (RVp okv) b r n D left cnt) (k : Below w.heap.size w w') : w'.ranges Tryz.prog 64 (RVp okv) b r n D left cnt := by
  obtain ⟨es, clock, since, seen, c0, e1, e2, e3, e4, e5, e6⟩ := h
  exact ⟨es, clock, since, seen, c0, (k.block b (Array.getElem?_eq_some_iff.1 e1).1).trans e1, e2, e3, e4, (k.block r (Array.getElem?_eq_some_iff.1 e5).1).trans e5, e6⟩
theorem ranges_drew {w : World} {okv : Value → Bool} {b r n cnt : Nat} {D : DataW Value} {left : Lit → Bool} (h : w.ranges Tryz.prog 64 (RVp okv) b r n D left cnt) (k : Nat) : (w.drewN k).ranges Tryz.prog 64 (RVp okv) b r n D left cnt := h

set_option maxRecDepth 100000 in
set_option maxHeartbeats 1600000 in
theorem delete_any (w : World) (b n : Nat) (F : Nat → Nat → Option Value) (d bd : Nat) (h : MapS w b n F) (hb : Blk w bd 3 #[.int .i64 (d : Int)]) :
    Calls Tryz.prog 74 #[.map (some b), .func (.func 75) #[] #[.pointer (some ⟨bd, 0, none⟩)]] w fun e w' => e = .returned (.tuple #[]) ∧ MapS w' b n (wipeF F d) ∧ w.grownBy w' (some b) := by
  have hne : b ≠ bd := h.ne_blk hb
  have HN := Lib.hid hne
  have hbl := h.lt
  have hbdl := hb.lt
  obtain ⟨D, hown, him, hat⟩ := h
  have HAT := Lib.hid hat
  have HB := Lib.hid hb
  clear hat hb hne
  go_enter Tryz.func74, Tryz.ntmps74
  go_wp2_with (at_range; refine wpList_range_own _ rfl (.tmp 6) 57 rfl 64 68 keyed Tryz.underlying57 (RVp isSec) b n D rfl hown ?_; intro w0 hrg0 hg0 hs0)
  go_frame
  generalize hr : w.heap.size = r at *
  have RG := Lib.hid hrg0
  have G := Lib.hid hg0
  have ST : Hid (GoneTo D D d (Maps.has D)) := Lib.hid ⟨him, fun d' a' hd ha zd => by
    split
    · rename_i hx
      exact Maps.atKey_of_not_has hx.2 zd
    · rfl⟩
  have G0 := Lib.hid (G.out.but (some b))
  have hsz : r + 1 ≤ w0.heap.size := by omega
  have HR : Hid (r = w.heap.size) := Lib.hid hr.symm
  clear hrg0 hg0 hs0 hr G
  go_loopw [] (fun wr => ∃ (left : Lit → Bool) (cnt : Nat) (D' : DataW Value), Hid (wr.ranges Tryz.prog 64 (RVp isSec) b r n D' left cnt) ∧ Hid (w.grownBy wr (some b)) ∧ r + 1 ≤ wr.heap.size ∧ Hid (GoneTo D D' d left)) (fun wr => wr.rangeLeft b r)
  case atStart => exact ⟨_, _, D, RG, G0, hsz, ST⟩
  case round =>
    obtain ⟨left, cnt, D', RG1, G1, hsz1, ST1⟩ := hrel
    clear RG G0 ST hsz
    have LE1 : Hid (wr.rangeLeft b r = cnt) := Lib.hid RG1.out.left_eq
    go_wp2_with (at_next; refine wpList_next_ranges (w := wr) rfl (.tmp 7) rfl 64 keyed (RVp isSec) (id : Value → Value) (id : Value → Value) (fun key kl _ => ⟨key, rfl⟩) (fun v y _ => ⟨v, rfl⟩) b r n D' left cnt rfl RG1.out ?_ ?_)
    · intro hc0 hl0
      have ME : Hid (MapS wr b n (wipeF F d)) := by
        refine ⟨D', RG1.out.owns, ST1.out.1, fun d' a' hd ha zd => ?_⟩
        rw [ST1.out.2 d' a' hd ha zd, HAT.out d' a' hd ha zd]
        unfold wipeF
        by_cases e : d' = d
        · rw [if_pos ⟨e, hl0 _⟩, if_pos e]
          rfl
        · rw [if_neg (fun x => e x.1), if_neg e]
      clear hl0 hc0 RG1 ST1
      go_wp2_with fail
      go_end0
      exact ⟨rfl, ME.out, G1.out⟩
    · intro x c kl y ps w1 cnt1 hkey hlk hv hat hrg hlt hgr hs1 hen
      obtain ⟨i, j, rfl⟩ := key_inv hkey
      obtain ⟨hsec, _⟩ := RVp_inv hv
      obtain ⟨cs, rfl, hcs, hc1⟩ := isSec_inv hsec
      have KEY := Lib.hid hkey
      have RG2 := Lib.hid hrg
      have G2 : Hid (w.grownBy w1 (some b)) := Lib.hid (grown_on G1.out hgr (by have := HR.out; omega))
      have hsz2 : r + 1 ≤ w1.heap.size := by omega
      have hrl := Lib.hid hlt
      clear hkey hv hat hrg hlt hgr hs1 hsec RG1 G1
      go_wp2_with (refine wpList_allocX rfl 68 rfl _ (alloc_sector _) ?_; refine of_hid ?_)
      refine Lib.hid ?_
      refine wpList_storeBlk rfl 64 (.tmp 4) (.tmp 11) rfl w1.heap.size #[.int .i64 0, .int .i64 0] #[.int .i64 i, .int .i64 j] rfl rfl ((Blk.new w1 64 _).alloc _) isize_place rfl (by simp [Value.oneCell']) ?_
      intro w2 hb2 hg2 hs2
      have hbs : Blk w2 (w1.heap.size + 1) 68 (secA zeros) := (blk_new2 w1 (.cells #[.int .i64 0, .int .i64 0] 64) (secA zeros) 68).grown hg2 (fun e => by injection e with e; omega)
      refine wpList_storeBlk rfl 68 (.tmp 5) (.tmp 12) rfl (w1.heap.size + 1) (secA zeros) cs rfl rfl hbs (by rw [hcs]; exact isize_sector) (by rw [hcs, secA_size]) hc1 ?_
      intro w3 hb3 hg3 hs3
      have n1 : Below w1.heap.size w1 ((w1.alloc (.cells #[.int .i64 0, .int .i64 0] 64)).alloc (.cells (secA zeros) 68)) := ((Below.refl w1.heap.size w1).alloc (Nat.le_refl _) _).alloc (by simp) _
      have n2 : Below w1.heap.size w1 w2 := n1.trans ⟨hg2.os, hg2.tape, hg2.output, hg2.size, fun k hk => hg2.block k (by simp; omega) (fun e => by injection e with e; omega)⟩
      have n3 : Below w1.heap.size w1 w3 := n2.trans ⟨hg3.os, hg3.tape, hg3.output, hg3.size, fun k hk => hg3.block k (Nat.lt_of_lt_of_le hk n2.size) (fun e => by injection e with e; omega)⟩
      have P3 := hb2.grown hg3 (fun e => by injection e with e; omega)
      have p0 : w3.cell? ⟨w1.heap.size, 0, none⟩ = some (.int .i64 i) := P3.cell 0
      have p1 : w3.cell? ⟨w1.heap.size, 1, none⟩ = some (.int .i64 j) := P3.cell 1
      have hl3 := load_blk hb3 Tryz.underlying68 rfl (by rw [hcs]; exact isize_sector)
      have RG3 := Lib.hid (ranges_new RG2.out n3)
      have G3 := Lib.hid (grown_new G2.out n3)
      have HB3 := Lib.hid (HB.out.grown G3.out (fun e => HN.out (by injection e with e; exact e.symm)))
      have hsz3 : r + 1 ≤ w3.heap.size := Nat.le_trans hsz2 n3.size
      have HP3 := Lib.hid P3
      have hbx3 := P3.lt
      clear hb2 hg2 hs2 hbs hb3 hg3 hs3 n1 n2 n3 P3 RG2 G2 hen
      generalize w1.heap.size = bx at *
      go_wp2_with (refine wpList_loadX rfl 68 _ rfl _ _ rfl hl3 ?_; refine of_hid ?_)
      refine Lib.hid ?_
      go_wp2_with fail
      refine (pick_any w3 i j (d : Int) cs bd HB3.out).mono ?_
      rintro e w4 ⟨rfl, b4⟩
      have RG4 := Lib.hid (ranges_new RG3.out b4)
      have G4 := Lib.hid (grown_new G3.out b4)
      have hsz4 : r + 1 ≤ w4.heap.size := Nat.le_trans hsz3 b4.size
      have HP4 := Lib.hid (HP3.out.new_ b4)
      clear b4 RG3 G3 HP3 p0 p1 hl3 HB3
      by_cases hi : i = (d : Int)
      · rw [show (i == (d : Int)) = true from by simp [hi]]
        have ST2 := Lib.hid (ST1.out.strike KEY.out rfl hi)
        have p0 : w4.cell? ⟨bx, 0, none⟩ = some (.int .i64 i) := HP4.out.cell 0
        have p1 : w4.cell? ⟨bx, 1, none⟩ = some (.int .i64 j) := HP4.out.cell 1
        clear hi ST1
        go_wp2_with ((with_reducible refine wpList_delete_ranges w4 rfl (.tmp 17) (.tmp 18) 57 64 rfl 68 keyed Tryz.underlying57 (RVp isSec) b r n D' _ cnt1 rfl RG4.out (.agg #[.int .i64 i, .int .i64 j]) kl rfl KEY.out ?_); intro w5 cnt5 hrg5 hle5 hmt5)
        rw [Maps.strike_twice] at hrg5
        have LE5 := hrg5.left_eq
        have G5 := grown_trans G4.out hmt5.grown
        have hsz5 : r + 1 ≤ w5.heap.size := Nat.le_trans hsz4 hmt5.grown.size
        refine ⟨⟨_, _, _, _, _, _, _, _, _, _, _, _, _, ⟨_, _, _, Lib.hid hrg5, Lib.hid G5, hsz5, ST2⟩, rfl⟩, ?_⟩
        rw [LE5, LE1.out]
        exact Nat.lt_of_le_of_lt hle5 hrl.out
      · rw [show (i == (d : Int)) = false from by simp [hi]]
        have ST2 := Lib.hid (ST1.out.keep KEY.out rfl hi)
        clear hi ST1
        have LE4 := Lib.hid RG4.out.left_eq
        go_wp2_with fail
        go_roundw
        case rel => exact ⟨_, _, D', RG4, G4, hsz4, ST2⟩
        case measure => rw [LE4.out, LE1.out]; exact hrl.out
end Go.Proofs.YtlhjpceaookanaaGreatDoor
