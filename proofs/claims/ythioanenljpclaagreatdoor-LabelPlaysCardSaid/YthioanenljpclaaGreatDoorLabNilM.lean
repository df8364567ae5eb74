/-
  What comes in as a list of steps of a rack with labels. Conditions: what the reading of an argument gives; the ints of a call take less than 2^47 bytes.
-/
import Derived.Test.YthioanenljpclaaGreatDoorLawIntsM
import Derived.ProofKit
import Derived.Deep.Slices
import Derived.Deep.Strs
import Derived.Deep.Fields
import Derived.SizedLaws
import Derived.Test.YthioanenljpclaaGreatDoorLabSlotsIM
import Derived.Test.YthioanenljpclaaGreatDoorRackWrite
import Derived.Test.YthioanenljpclaaGreatDoorRefRottenM
import Derived.Test.YthioanenljpclaaGreatDoorLabNewestM
namespace Go.Proofs.YthioanenljpclaaGreatDoor
open Go Go.RowKit Go.ChangeShapes Go.WideShapes Go.ChangeAt
set_option linter.unusedVariables false
set_option maxRecDepth 100000

/-- a call: its kind, drive, place, fill, number; its picks -/
structure OpV8 where
  k : Int
  d : Int
  a : Int
  n : Int
  pa : Option Addr
  pn : Nat
  pc : Nat
  px : Nat → Int
/-- the picks of a call -/
def PicksOk8 (w : World) (B : Nat) (y : OpV8) : Prop := RdI w B y.pa y.pn y.px ∧ y.pn ≤ y.pc ∧ (y.pa = none → y.pc = 0) ∧ y.pc * 8 ≤ 140737488351232
/-- n calls, below block B -/
def RdOps8 (w : World) (B : Nat) (A : Option Addr) (n : Nat) (o : Nat → OpV8) : Prop :=
  ∀ i, i < n → ∃ b s, A = some ⟨b, s, none⟩ ∧ b < B ∧ (w.cell? ⟨b, s + i * 5, none⟩ = some (.int .i64 (o i).k) ∧ w.cell? ⟨b, s + i * 5 + 1, none⟩ = some (.int .i64 (o i).d) ∧ w.cell? ⟨b, s + i * 5 + 2, none⟩ = some (.int .i64 (o i).a) ∧
    w.cell? ⟨b, s + i * 5 + 3, none⟩ = some (.int .i64 (o i).n) ∧ w.cell? ⟨b, s + i * 5 + 4, none⟩ = some (.slice (o i).pa (o i).pn (o i).pc)) ∧
    (I64 (o i).k ∧ I64 (o i).d ∧ I64 (o i).a ∧ I64 (o i).n) ∧ PicksOk8 w B (o i)
theorem RdOps8.below {w w' : World} {B : Nat} {A : Option Addr} {n : Nat} {o : Nat → OpV8} (h : RdOps8 w B A n o) (hb : Below B w w') : RdOps8 w' B A n o := fun i hi => by
  obtain ⟨b, s, h1, h2, ⟨c0, c1, c2, c3, c4⟩, h4, h5, h6⟩ := h i hi
  exact ⟨b, s, h1, h2, ⟨(hb.cell (p := ⟨b, s + i * 5, none⟩) h2).trans c0, (hb.cell (p := ⟨b, s + i * 5 + 1, none⟩) h2).trans c1, (hb.cell (p := ⟨b, s + i * 5 + 2, none⟩) h2).trans c2, (hb.cell (p := ⟨b, s + i * 5 + 3, none⟩) h2).trans c3,
    (hb.cell (p := ⟨b, s + i * 5 + 4, none⟩) h2).trans c4⟩, h4, h5.below hb, h6⟩
section
variable {H : Type} {enc : TypeId × Value → H} {P : Program} {W : World} {base : Nat} {held : Bool}
theorem weightsAll_mem8 {e : TypeId} : ∀ {l : List (DataW H)} {d : DataW H}, d ∈ l → ∀ n ∈ d.weights P e, n ∈ DataW.weightsAll P e l
  | d' :: r, d, hd, n, hn => by
    simp only [DataW.weightsAll, List.mem_append]
    rcases List.mem_cons.1 hd with rfl | h
    · exact Or.inl hn
    · exact Or.inr (weightsAll_mem8 h n hn)
/-- how much a slice in a field of an element takes -/
theorem sized_field8 {ts : List TypeId} {ds : List (DataW H)} (h : (DataW.weightsEach P ts ds).all (· ≤ reachBytes) = true) {j i : Nat} {t e tf q : TypeId} {fs : Array Field} {elems spare parts es sp : List (DataW H)}
    (ht : ts[j]? = some t) (hd : ds[j]? = some (.slice elems spare)) (hu : P.underlying t = some (.slice e)) (hs : P.underlying e = some (.struct fs)) (hx : DataW.agg parts ∈ elems)
    (hf : (fs.toList.map (·.type))[i]? = some tf) (hp : parts[i]? = some (.slice es sp)) (hq : P.underlying tf = some (.slice q)) : (es.length + sp.length) * P.bytesOf q ≤ reachBytes := by
  refine of_decide_eq_true (List.all_eq_true.1 h _ (DataW.weights_mem_each ht hd _ ?_))
  simp only [DataW.weights, hu, List.mem_cons, List.mem_append]
  refine Or.inr (Or.inl (weightsAll_mem8 hx _ ?_))
  simp only [DataW.weights, hs]
  exact DataW.weights_mem_each hf hp _ (by simp [DataW.weights, hq])
/-- a slice's value -/
theorem slice_of_trod8 {t e : TypeId} {fuel : Nat} {v : Value} {x : DataW H × List MemPlace} (ht : P.underlying t = some (.slice e)) (h : DataW.trod enc P W base (fun _ => true) held fuel t [v] = some x) : ∃ a n c, v = .slice a n c := by
  rcases Go.Deep.open_slice ht h with ⟨hcs, _⟩ | ⟨ad, l, c, m, n, D, Pl, hcs, _⟩
  · simp at hcs; exact ⟨_, _, _, hcs⟩
  · simp at hcs; exact ⟨_, _, _, hcs⟩
/-- the data of a call tells how many picks there is room for -/
def OpD8 (d : DataW H) (y : OpV8) : Prop := y.pc = 0 ∨ ∃ parts es sp, d = .agg parts ∧ parts[4]? = some (.slice es sp) ∧ es.length + sp.length = y.pc
theorem op_of_trod8 {e ei : TypeId} {f0 f1 f2 f3 f4 : Field} {fuel : Nat} {cs : List Value} {x : DataW H × List MemPlace} (he : P.underlying e = some (.struct #[f0, f1, f2, f3, f4]))
    (hone : Go.Deep.oneCellFields P #[f0, f1, f2, f3, f4] = true) (hlen : cs.length = 5) (u0 : P.underlying f0.type = some (.int .i64)) (u1 : P.underlying f1.type = some (.int .i64)) (u2 : P.underlying f2.type = some (.int .i64))
    (u3 : P.underlying f3.type = some (.int .i64)) (u5 : P.underlying f4.type = some (.slice ei)) (u6 : P.underlying ei = some (.int .i64)) (c6 : P.cellsOf ei = 1)
    (h : DataW.trod enc P W base (fun _ => true) held fuel e cs = some x) :
    ∃ y : OpV8, cs = [.int .i64 y.k, .int .i64 y.d, .int .i64 y.a, .int .i64 y.n, .slice y.pa y.pn y.pc] ∧ (I64 y.k ∧ I64 y.d ∧ I64 y.a ∧ I64 y.n) ∧
      RdI W W.heap.size y.pa y.pn y.px ∧ y.pn ≤ y.pc ∧ (y.pa = none → y.pc = 0) ∧ OpD8 x.1 y := by
  obtain ⟨xs, n, _, rfl, hl, hxs, hf⟩ := DataW.trod_struct he h
  obtain ⟨o0, k0⟩ := Go.Deep.hone_of hone 0 f0 rfl
  obtain ⟨o1, k1⟩ := Go.Deep.hone_of hone 1 f1 rfl
  obtain ⟨o2, k2⟩ := Go.Deep.hone_of hone 2 f2 rfl
  obtain ⟨o3, k3⟩ := Go.Deep.hone_of hone 3 f3 rfl
  obtain ⟨o4, k4⟩ := Go.Deep.hone_of hone 4 f4 rfl
  match xs, hxs, cs, hlen with
  | [x0, x1, x2, x3, x4], _, [v0, v1, v2, v3, v4], _ =>
    have g0 := hf 0 f0 rfl
    have g1 := hf 1 f1 rfl
    have g2 := hf 2 f2 rfl
    have g3 := hf 3 f3 rfl
    have g4 := hf 4 f4 rfl
    rw [o0, k0] at g0
    rw [o1, k1] at g1
    rw [o2, k2] at g2
    rw [o3, k3] at g3
    rw [o4, k4] at g4
    replace g0 : DataW.trod enc P W base (fun _ => true) held n f0.type [v0] = some x0 := g0
    replace g1 : DataW.trod enc P W base (fun _ => true) held n f1.type [v1] = some x1 := g1
    replace g2 : DataW.trod enc P W base (fun _ => true) held n f2.type [v2] = some x2 := g2
    replace g3 : DataW.trod enc P W base (fun _ => true) held n f3.type [v3] = some x3 := g3
    replace g4 : DataW.trod enc P W base (fun _ => true) held n f4.type [v4] = some x4 := g4
    obtain ⟨z0, q0, _, r0⟩ := DataW.trod_int u0 g0
    obtain ⟨z1, q1, _, r1⟩ := DataW.trod_int u1 g1
    obtain ⟨z2, q2, _, r2⟩ := DataW.trod_int u2 g2
    obtain ⟨z3, q3, _, r3⟩ := DataW.trod_int u3 g3
    simp at q0 q1 q2 q3
    subst q0; subst q1; subst q2; subst q3
    obtain ⟨pa, pn, pc, rfl⟩ := slice_of_trod8 u5 g4
    obtain ⟨px, s1, s2, s3, s4, s5⟩ := rdi_of_trod2 u5 u6 c6 g4
    refine ⟨⟨z0, z1, z2, z3, pa, pn, pc, px⟩, rfl, ⟨bounds_i64 r0, bounds_i64 r1, bounds_i64 r2, bounds_i64 r3⟩, s1, s2, s4, ?_⟩
    rcases s5 with s5 | ⟨es, sp, s6, s7⟩
    · exact .inl s5
    · exact .inr ⟨_, es, sp, rfl, by rw [← s6]; rfl, s7⟩
theorem ops_of_trod8 {t e ei : TypeId} {f0 f1 f2 f3 f4 : Field} {fuel len cap : Nat} {A : Option Addr} {x : DataW H × List MemPlace} {ts : List TypeId} {ds : List (DataW H)} {j : Nat} (ht : P.underlying t = some (.slice e))
    (he : P.underlying e = some (.struct #[f0, f1, f2, f3, f4])) (hone : Go.Deep.oneCellFields P #[f0, f1, f2, f3, f4] = true) (hC : P.cellsOf e = 5)
    (u0 : P.underlying f0.type = some (.int .i64)) (u1 : P.underlying f1.type = some (.int .i64)) (u2 : P.underlying f2.type = some (.int .i64))
    (u3 : P.underlying f3.type = some (.int .i64)) (u5 : P.underlying f4.type = some (.slice ei)) (u6 : P.underlying ei = some (.int .i64)) (c6 : P.cellsOf ei = 1) (b6 : P.bytesOf ei = 8)
    (hsz : (DataW.weightsEach P ts ds).all (· ≤ reachBytes) = true) (hts : ts[j]? = some t) (hds : ds[j]? = some x.1)
    (h : DataW.trod enc P W base (fun _ => true) held fuel t (Value.slice A len cap).cells.toList = some x) : ∃ o, RdOps8 W W.heap.size A len o ∧ len ≤ cap ∧ cap ≤ maxLen := by
  rcases Go.Deep.open_slice ht h with ⟨hcs, _⟩ | ⟨ad, l, c, m, n, D, Pl, hcs, _, hl, hm, hmm, hxx, hx⟩
  · simp [Value.cells] at hcs
    obtain ⟨rfl, rfl, rfl⟩ := hcs
    exact ⟨fun _ => ⟨0, 0, 0, 0, none, 0, 0, fun _ => 0⟩, fun j hj => absurd hj (by omega), by omega, by unfold maxLen; omega⟩
  · simp [Value.cells] at hcs
    obtain ⟨rfl, rfl, rfl⟩ := hcs
    simp at hmm
    have each : ∀ i, ∃ y : OpV8, i < len → (W.cell? (ad.add (i * 5)) = some (.int .i64 y.k) ∧ W.cell? (ad.add (i * 5 + 1)) = some (.int .i64 y.d) ∧ W.cell? (ad.add (i * 5 + 2)) = some (.int .i64 y.a) ∧ W.cell? (ad.add (i * 5 + 3)) = some (.int .i64 y.n) ∧ W.cell? (ad.add (i * 5 + 4)) = some (.slice y.pa y.pn y.pc)) ∧ (I64 y.k ∧ I64 y.d ∧ I64 y.a ∧ I64 y.n) ∧ PicksOk8 W W.heap.size y := by
      intro i
      by_cases hi : i < len
      · obtain ⟨cs', h1, h2⟩ := hx i (by omega)
        rw [hC] at h1
        obtain ⟨_, hlen, hcell⟩ := World.cells?_some h1
        obtain ⟨y, rfl, hb, g1, g2, g3, g4⟩ := op_of_trod8 he hone hlen u0 u1 u2 u3 u5 u6 c6 h2
        have e0 := hcell 0 (by omega)
        have e1 := hcell 1 (by omega)
        have e2 := hcell 2 (by omega)
        have e3 := hcell 3 (by omega)
        have e4 := hcell 4 (by omega)
        rw [Go.Deep.add_add] at e0 e1 e2 e3 e4
        refine ⟨y, fun _ => ⟨⟨by simpa using e0, by simpa using e1, by simpa using e2, by simpa using e3, by simpa using e4⟩, hb, g1, g2, g3, ?_⟩⟩
        rcases g4 with g4 | ⟨parts, es, sp, g5, g6, g7⟩
        · rw [g4]; omega
        · have := sized_field8 hsz hts (by rw [hds, hxx]) ht he (List.mem_map.2 ⟨i, List.mem_range.2 hi, g5⟩) (i := 4) rfl g6 u5
          rw [g7, b6] at this
          exact this
      · exact ⟨⟨0, 0, 0, 0, none, 0, 0, fun _ => 0⟩, fun h => absurd h hi⟩
    obtain ⟨f, hf⟩ := Classical.skolem.1 each
    refine ⟨f, fun i hi => ?_, hl, hm⟩
    obtain ⟨⟨c0, c1, c2, c3, c4⟩, hb, hp⟩ := hf i hi
    obtain ⟨b, s, spt⟩ := ad
    have hsp : spt = none := by
      have h2 := World.cell?_spot (hf 0 (by omega)).1.1
      simpa [Addr.add] using h2
    subst hsp
    rw [add_plain] at c0 c1 c2 c3 c4
    exact ⟨b, s, rfl, block_lt_of_cell c0, ⟨c0, by rw [Nat.add_assoc]; exact c1, by rw [Nat.add_assoc]; exact c2, by rw [Nat.add_assoc]; exact c3, by rw [Nat.add_assoc]; exact c4⟩, hb, hp⟩
end
end Go.Proofs.YthioanenljpclaaGreatDoor
namespace Go.Proofs.YthioanenljpclaaGreatDoor
open Go Go.RowKit refRack
set_option maxRecDepth 100000
set_option linter.unusedVariables false
namespace Lab
theorem load_uberP {W : World} {g : Nat} {u : U} (h : Blk W g 43 (uA u)) : (Instr.loadAt 43 (.pointer (some ⟨g, 0, none⟩))).run Tryz.prog W = .ok (.agg (uA u)) W := load_blk h Tryz.underlying43 rfl isize_uberR
theorem neq_uberP (u : U) (W : World) : (binOp .neq 43 (.agg (uA u)) (.agg (uA u))).run Tryz.prog W = .ok (.bool false) W := by
  unfold uA
  simp [go_sem, run_eql_struct]
theorem neq_errP (y : Int) (W : World) : (binOp .neq 26 (.int .i64 y) (.int .i64 y)).run Tryz.prog W = .ok (.bool false) W := by
  simp [go_sem]
set_option maxHeartbeats 1600000 in
theorem law_ofP (u : U) (w : World) :
    Calls Tryz.prog 27 #[.agg (uA u)] w fun e w' => e = .returned (.agg (uA u)) ∧ Below w.heap.size w w' := by
  obtain ⟨t, ⟨a, z, b, s⟩⟩ := u
  simp only [uA]
  have L1 : Hid (Below w.heap.size w ((w.alloc (.cells #[.int .i64 t, .int .i64 a, .int .i64 z, .int .i64 b, .string s] 41)).alloc (.cells #[.int .i64 0, .int .i64 0, .int .i64 0, .int .i64 0, .string ⟨#[]⟩] 43))) := Lib.hid (((Below.refl _ _).alloc (Nat.le_refl _) _).alloc (by simp) _)
  have X1 : Hid (Blk ((w.alloc (.cells #[.int .i64 t, .int .i64 a, .int .i64 z, .int .i64 b, .string s] 41)).alloc (.cells #[.int .i64 0, .int .i64 0, .int .i64 0, .int .i64 0, .string ⟨#[]⟩] 43)) w.heap.size 41 #[.int .i64 t, .int .i64 a, .int .i64 z, .int .i64 b, .string s]) := Lib.hid ((Blk.new _ _ _).alloc _)
  have Y1 : Hid (Blk ((w.alloc (.cells #[.int .i64 t, .int .i64 a, .int .i64 z, .int .i64 b, .string s] 41)).alloc (.cells #[.int .i64 0, .int .i64 0, .int .i64 0, .int .i64 0, .string ⟨#[]⟩] 43)) (w.heap.size + 1) 43 #[.int .i64 0, .int .i64 0, .int .i64 0, .int .i64 0, .string ⟨#[]⟩]) := Lib.hid (by
    have h := Blk.new (w.alloc (.cells #[.int .i64 t, .int .i64 a, .int .i64 z, .int .i64 b, .string s] 41)) 43 #[.int .i64 0, .int .i64 0, .int .i64 0, .int .i64 0, .string ⟨#[]⟩]
    have e : (w.alloc (.cells #[.int .i64 t, .int .i64 a, .int .i64 z, .int .i64 b, .string s] 41)).heap.size = w.heap.size + 1 := by simp
    rw [e] at h
    exact h)
  go_enter Tryz.func27, Tryz.ntmps27
  go_upto_region 1 with (fail)
  generalize hw1 : (w.alloc (.cells #[.int .i64 t, .int .i64 a, .int .i64 z, .int .i64 b, .string s] 41)).alloc (.cells #[.int .i64 0, .int .i64 0, .int .i64 0, .int .i64 0, .string ⟨#[]⟩] 43) = w1 at *
  obtain ⟨g, hg⟩ : ∃ g, g = w.heap.size := ⟨_, rfl⟩
  rw [← hg] at X1 Y1 L1 ⊢
  clear hw1
  have HG := Lib.hid hg
  obtain ⟨⟨d0, d1, d2, d3, d4⟩, _, _, _, _, _⟩ := uber_facts X1.out
  obtain ⟨⟨f0, f1, f2, f3, f4⟩, e0, e1, e2, e3, e4⟩ := uber_facts Y1.out
  clear hg
  go_wp2_with fail
  refine bodyPost_ret (results_cell rfl rfl (set5_loadR Y1.out _ _ _ _ _)) rfl ?_
  exact ⟨rfl, by rw [← HG.out]; exact set5_below (g := g + 1) L1.out (Nat.le_succ g) _ _ _ _ _⟩
/-- a number somewhere else has changed: both racks stand -/
theorem both_int {B : Nat} {w : World} {r g c l i : Nat} {s t : RS} {cs : Array Value} {u : Value} (h : Both B w r g s t c) (hb : Blk w l 3 cs) : Both B (w.setCell ⟨l, i, none⟩ u) r g s t c := by
  have hg : w.grownBy (w.setCell ⟨l, i, none⟩ u) (some l) := (Only.refl l w).setCell i u
  refine ⟨h.rack.grownFar hb rfl hg, ?_, h.sim, h.cost⟩
  obtain ⟨vL, vG, vW, H, C, hk⟩ := h.ref
  have ok : ∀ {n c : Nat} {e : TypeId} {v : Value} {xs : List Value}, (e == 3) = false → w.ownsRow B e c v n xs → (w.setCell ⟨l, i, none⟩ u).ownsRow B e c v n xs := fun he h1 => own_keep h1 fun g1 hg1 => hg.block g1 (own_lt h1 hg1).1 (fun e => own_not_blk h1 hb he (hg1.trans e))
  exact ⟨vL, vG, vW, H, C, hk.blk.grown hg (fun e => Blk.ne_ hk.blk hb (by decide) (by injection e)), hk.hg, ok rfl hk.heads, fun d hd => ok rfl (hk.rows d hd), hk.apart, ok rfl hk.lost, ok rfl hk.waits⟩
theorem ownI_shape {w : World} {base : Nat} {v : Value} {l : List Int} (h : OwnI w base v l) (hl : 1 ≤ l.length) : ∃ g c, v = .slice (some ⟨g, 0, none⟩) l.length c ∧ base ≤ g := by
  rcases h.2 with ⟨_, e⟩ | ⟨g, cap, cur, e, h2, _⟩
  · omega
  · exact ⟨g, cap, e, h2⟩
theorem cell_iR {w : World} {base g n c : Nat} {l : List Int} (h : OwnI w base (.slice (some ⟨g, 0, none⟩) n c) l) {k : Nat} {x : Int} (hx : l[k]? = some x) : w.cell? ⟨g, k, none⟩ = some (.int .i64 x) := by
  obtain ⟨A, c', e, hr, _⟩ := h.shape (fun _ => rfl)
  injection e with e1 e2 e3
  obtain ⟨b, o, e4, _, h5⟩ := hr k x hx
  rw [← e1] at e4
  injection e4 with e4
  injection e4 with e4 e5
  subst e4 e5
  have h0 := h5 0 _ rfl
  rw [Nat.zero_add, Nat.mul_one, Nat.add_zero] at h0
  exact h0
theorem index_iR (g n c i : Nat) (h : i < n) (w : World) : (Instr.indexAt 32 (.slice (some ⟨g, 0, none⟩) n c) (.int .i64 (i : Int))).run Tryz.prog w = .ok (.pointer (some ⟨g, i, none⟩)) w := by
  have h1 := Gr.index_gen (k := 1) Tryz.underlying32 (by kernel_rfl) g 0 n c i h w
  rw [Nat.mul_one, Nat.zero_add] at h1
  exact h1
/-- the slots while they are struck out -/
structure SM (B : Nat) (W0 W : World) (r g c q gl cl base : Nat) (s t : RS) (F : Nat → Int) (k : Nat) : Prop where
  both : Both B W r g s t c
  qb : Blk W q 3 (intR 8 fun j => if j < k then 0 else F j)
  own : OwnI W base (.slice (some ⟨gl, 0, none⟩) 8 cl) ((List.range 8).map F)
  bel : Below B W0 W
  lo : B ≤ q ∧ q ≠ gl
theorem SM.drewN {B : Nat} {W0 W : World} {r g c q gl cl base : Nat} {s t : RS} {F : Nat → Int} {k : Nat} (h : SM B W0 W r g c q gl cl base s t F k) (n : Nat) : SM B W0 (W.drewN n) r g c q gl cl base s t F k :=
  have hb := below_drewN (Below.refl W.heap.size W) n
  ⟨h.both.below hb, h.qb.below hb h.qb.lt, h.own.below hb (Nat.le_refl _), h.bel.trans (hb.mono h.both.le), h.lo⟩
theorem SM.strike {B : Nat} {W0 W : World} {r g c q gl cl base : Nat} {s t : RS} {F : Nat → Int} {k : Nat} (h : SM B W0 W r g c q gl cl base s t F k) (hk : k < 8) : SM B W0 (W.setCell ⟨q, k, none⟩ (.int .i64 0)) r g c q gl cl base s t F (k + 1) := by
  have ho : Only q W (W.setCell ⟨q, k, none⟩ (.int .i64 0)) := (Only.refl q W).setCell k _
  refine ⟨both_int h.both h.qb, ?_, h.own.keep fun x hx => ho.block x (h.own.lt hx).1 (fun e => ?_), h.bel.trans (ho.below h.lo.1 h.both.le), h.lo⟩
  · have h1 := h.qb.set_ k (.int .i64 0)
    rw [intR_set hk] at h1
    rw [show (fun j => if j < k + 1 then (0 : Int) else F j) = fun j => if j = k then 0 else if j < k then 0 else F j from funext fun j => by
      by_cases e1 : j = k
      · rw [if_pos e1, if_pos (by omega)]
      · rw [if_neg e1]
        by_cases e2 : j < k
        · rw [if_pos e2, if_pos (by omega)]
        · rw [if_neg e2, if_neg (by omega)]]
    exact h1
  · cases hx
    injection e with e
    exact h.lo.2 e.symm
end Lab
end Go.Proofs.YthioanenljpclaaGreatDoor
namespace Go.Proofs.YthioanenljpclaaGreatDoor
set_option maxRecDepth 100000
open Go.RowKit
set_option linter.unusedVariables false
set_option linter.unusedSimpArgs false

set_option maxHeartbeats 1600000 in
theorem write_goF {B : Nat} (w : World) (r : Nat) (s S' : RS) (E : Int) (d a gb o c : Nat) (X : Nat → Nat) (t : TypeId) (cs : Array Value) (h : RackAt B w r s) (hd : d < s.nd) (ha : a < s.ns) (hgone : s.gone d = false) {fr : Nat × Nat} (hb : w.heap[gb]? = some (.cells cs t fr)) (ht : (t == 68 || t == 89) = false)
    (hX : ∀ j, j < 128 → cs[o + j]? = some (.int .u8 ((X j : Nat) : Int)) ∧ X j < 256) (hcost : s.cost + 1 ≤ 1000000) (hE : E = if s.pow then 0 else 16) (hS : S' = if s.pow then s.spent.wrote d a X else s.spent) :
    Calls Tryz.prog 21 #[.pointer (some ⟨r, 0, none⟩), .int .i64 (d : Int), .int .i64 (a : Int), .slice (some ⟨gb, o, none⟩) 128 c] w fun e w' => e = .returned (.int .i64 E) ∧ RackAt B w' r S' ∧ Keep B w w' := by
  have HE := Lib.hid hE
  have HS := Lib.hid hS
  clear hE hS
  have hwhy : s.why (d : Int) (a : Int) = 0 := by
    have e : s.isP (d : Int) (a : Int) = true := by simp [RS.isP, RS.isD]; omega
    unfold RS.why
    rw [if_pos e, Int.toNat_natCast, hgone]
    rfl
  have H1 := Lib.hid (h.alloc (.cells (waitI d a zeros) 89))
  have K1 := Lib.hid ((Keep.refl B w).alloc h.le (.cells (waitI d a zeros) 89))
  have b1 := Blk.new w 89 (waitI d a zeros)
  have BX1 := Lib.hid b1
  have p0 : (w.alloc (.cells (waitI d a zeros) 89)).cell? ⟨w.heap.size, 0, none⟩ = some (.int .i64 (d : Int)) := (b1.cell 0).trans (waitI_0 _ _ _)
  have p1 : (w.alloc (.cells (waitI d a zeros) 89)).cell? ⟨w.heap.size, 1, none⟩ = some (.int .i64 (a : Int)) := (b1.cell 1).trans (waitI_1 _ _ _)
  obtain ⟨h0, m1, m2, v, hw⟩ := h
  have H0 := Lib.hid h0
  have HW1 := Lib.hid (hw.alloc (.cells (waitI d a zeros) 89))
  obtain ⟨l0, l1, l2, l3⟩ := hw.lts
  have HB := Lib.hid hb
  have hgs := (Array.getElem?_eq_some_iff.1 hb).1
  have HX := Lib.hid hX
  have hB := hw.le
  clear b1 h0 hw hb hX
  obtain ⟨Z, hZs, hz, hst⟩ := new_waiting w d a
  go_enter Tryz.func21, Tryz.ntmps21
  go_wp2_with fail
  refine (reach_any _ r s d a H1.out).mono ?_
  rintro e w2 ⟨rfl, _, k2, _, n2⟩
  have K2 := Lib.hid (K1.out.trans k2)
  have HW2 := Lib.hid (HW1.out.below n2)
  have BX2 := Lib.hid (BX1.out.new_ n2)
  clear k2 n2 p0 p1 hst
  rw [hwhy]
  clear hwhy
  go_wp2_with fail
  refine (powered_w _ r s H0.out HW2.out).mono ?_
  rintro e w3 ⟨rfl, ⟨h3, hw3⟩, k3, g3⟩
  have K3 := Lib.hid (K2.out.trans k3)
  have BX3 := Lib.hid (BX2.out.grown g3 (fun e => by injection e with e; omega))
  have HW3 := Lib.hid hw3
  have OK3 := Lib.hid h3
  clear hw3 k3 g3 h3
  by_cases hp : s.pow = true
  rotate_left
  · have hp' : s.pow = false := by simpa using hp
    rw [hp']
    have HP := Lib.hid hp'
    clear hp hp'
    go_wp2_with fail
    go_ret
    rw [HE.out, HS.out, HP.out]
    exact ⟨rfl, ⟨OK3.out, m1, m2, v, HW3.out⟩, K3.out⟩
  rw [hp]
  have HP := Lib.hid hp
  clear hp
  have HB3 := Lib.hid (K3.out.kept gb _ HB.out ht)
  have hcp := run_copy_row (P := Tryz.prog) w3 51 51 3 5 w.heap.size 2 128 128 ⟨gb, o, none⟩ 128 c (waitI d a zeros) 89 (rowL 128 X) Tryz.underlying51 (by kernel_rfl) BX3.out (by rw [rowL_length]; rfl) (fun j u hj => by
    have hjn : j < 128 := by have := (List.getElem?_eq_some_iff.1 hj).1; rw [rowL_length] at this; exact this
    rw [rowL_get X hjn] at hj
    injection hj with hj
    subst hj
    rw [add_plain]
    exact (cell_of_row w3 gb _ cs t fr HB3.out).trans (HX.out j hjn).1) (by rw [rowL_length, waitI_size]; omega) (fun u hu => by
    simp only [rowL, List.mem_map] at hu
    obtain ⟨j, _, rfl⟩ := hu
    rfl)
  rw [List.append_assoc, copyW, rowL_length] at hcp
  have BX4 : Hid (Blk (w3.setRow w.heap.size (waitI d a X)) w.heap.size 89 (waitI d a X)) := by
    have h := BX3.out
    unfold Blk at h
    show (w3.setRow w.heap.size (waitI d a X)).heap[w.heap.size]? = _
    simp [World.setRow, Array.getElem?_modify, h]
  have g4 : w3.grownBy (w3.setRow w.heap.size (waitI d a X)) (some w.heap.size) := ⟨rfl, rfl, rfl, by simp [World.setRow], fun k hk hne => by
    simp only [World.setRow, Array.getElem?_modify]
    rw [if_neg (fun e => hne (by rw [e]))]⟩
  have hz3 : w.heap.size ≤ w3.heap.size := K3.out.below.size
  have HW4 := Lib.hid (HW3.out.grownOut g4 (by omega) (by omega) (by omega) (fun e => by have := l3 _ e; omega))
  have K4 := Lib.hid (K3.out.grownNew g4 hB (by omega) (Nat.le_refl _))
  generalize w3.setRow w.heap.size (waitI d a X) = w4 at *
  clear g4 HW3 K3 BX3
  have EE := Lib.hid (spent_same s)
  have c3 := HW4.out.c3
  have c4 := HW4.out.c4
  obtain ⟨A3, c3n, hv3⟩ : ∃ A3 c3n, v = .slice A3 s.spent.nw c3n := by
    rcases HW4.out.row.2 with ⟨rfl, e⟩ | ⟨g, cap, cur, rfl, _⟩
    · exact ⟨none, 0, by rw [e]⟩
    · exact ⟨_, _, rfl⟩
  subst hv3
  have q0 : w4.cell? ⟨w.heap.size, 0, none⟩ = some (.int .i64 (d : Int)) := (BX4.out.cell 0).trans (waitI_0 _ _ _)
  have q1 : w4.cell? ⟨w.heap.size, 1, none⟩ = some (.int .i64 (a : Int)) := (BX4.out.cell 1).trans (waitI_1 _ _ _)
  go_wp2_with fail
  refine region_quiet_tail 11 (by kernel_rfl) (by kernel_rfl) ?_
  simp only [List.take_succ_cons, List.take_zero, List.drop_succ_cons, List.drop_zero]
  repeat (quiet_step (fail))
  refine wpQuiet_nil ?_
  rintro _ ⟨nq, rfl⟩
  refine wpList_mapPut rfl _ _ _ 65 3 rfl Tryz.underlying65 m2 s.spent.nw _ rfl (HW4.out.newest.drewN nq) (by simp only [maxLen]; have := HW4.out.nw_le; have := EE.out; omega) d a (by have := H0.out.nd2; omega) (by have := H0.out.ns2; omega) (.int .i64 (s.spent.nw : Int)) rfl rfl rfl ?_
  intro w5 hm5 hg5 hs5
  have M5 := Lib.hid hm5
  have G5 := Lib.hid hg5
  clear hm5 hg5
  go_wp2_with fail
  have hc35 : w5.cell? ⟨r, 3, none⟩ = some (.slice A3 s.spent.nw c3n) := (((HW4.out.drewN nq).blk.grown G5.out (fun e => HW4.out.ne2 (by injection e with e; exact e.symm))).cell 3).trans (rackA_get _ _ _ _ (by omega))
  have bx5 : Blk w5 w.heap.size 89 (waitI d a X) := (BX4.out.drewN nq).grown G5.out (fun e => by injection e with e; omega)
  have HS5 := Lib.hid (⟨hc35, bx5⟩ : AppS r w.heap.size (.slice A3 s.spent.nw c3n) (waitI d a X) w5)
  clear hc35 bx5
  refine region_anyZ (AppS r w.heap.size (.slice A3 s.spent.nw c3n) (waitI d a X)) 10 (by kernel_rfl) ?_
  refine AnyZ.take (i := 0) rfl (by kernel_rfl) (by kernel_rfl) (by kernel_rfl) (by kernel_rfl) (fun _ _ _ h => h) (yields_if rfl (fun w hS => rfl)) HS5.out ?_
  refine AnyZ.take (i := 1) rfl (by kernel_rfl) (by kernel_rfl) (by kernel_rfl) (by kernel_rfl) (fun _ _ _ h => h) (yields_if rfl (fun w hS => rfl)) HS5.out ?_
  refine AnyZ.take (i := 2) rfl (by kernel_rfl) (by kernel_rfl) (by kernel_rfl) (by kernel_rfl) (fun _ _ _ h => h) (yields_if rfl (fun w hS => rfl)) HS5.out ?_
  refine AnyZ.take (i := 3) (v := .pointer (some ⟨r, 3, none⟩)) rfl (by kernel_rfl) (by kernel_rfl) (by kernel_rfl) (by kernel_rfl) (fun _ _ _ h => h) (yields_if rfl (fun w hS => by kernel_rfl)) HS5.out ?_
  refine AnyZ.take (i := 4) rfl (by kernel_rfl) (by kernel_rfl) (by kernel_rfl) (by kernel_rfl) (fun _ _ _ h => h) (yields_if rfl (fun w hS => exec_load (x := .tmp 47) (v := .slice A3 s.spent.nw c3n) rfl (by kernel_rfl) (load_one Tryz.underlying64 rfl hS.1))) HS5.out ?_
  refine AnyZ.take (i := 5) rfl (by kernel_rfl) (by kernel_rfl) (by kernel_rfl) (by kernel_rfl) (fun _ _ _ h => h) (yields_if rfl (fun w hS => exec_load (x := .tmp 9) (v := .agg (waitI d a X)) rfl (by kernel_rfl) (load_blk hS.2 Tryz.underlying89 rfl (by rw [waitI_size]; exact isize_waiting)))) HS5.out ?_
  have EV : Hid (S' = s.spent.wrote d a X ∧ E = 0) := Lib.hid ⟨by rw [HS.out, HP.out]; rfl, by rw [HE.out, HP.out]; rfl⟩
  refine AnyZ.one (i := 6) (by kernel_rfl) ?_
  refine wpOp_val rfl rfl (exec_buildSlice1 (x := .tmp 49) (u := .agg (waitI d a X)) rfl (by kernel_rfl) (bs_waiting d a X w5.drew)) ⟨fun _ => ?_, ?_⟩
  · exact ⟨(World.cell?_of_block (Below.heap_alloc w5.drew _ r (by have := HW4.out.lts.1; have := G5.out.size; exact Nat.lt_of_lt_of_le ‹_› this))).trans HS5.out.1, Blk.alloc (w := w5.drew) HS5.out.2 _⟩
  refine AnyZ.one (i := 7) (by kernel_rfl) ?_
  refine wpOp_op rfl rfl ?_
  have R6 : Hid (RackK B ((w4.drewN nq)) r m1 m2 (.slice A3 s.spent.nw c3n) s.spent s.spent.nw) := Lib.hid (HW4.out.drewN nq)
  have row6 : (w5.drew.alloc (.cells (waitI d a X) 89)).ownsRow B 89 130 (.slice A3 s.spent.nw c3n) s.spent.nw (flat s.spent.W s.spent.nw) := by
    refine ⟨R6.out.row.1, ?_⟩
    rcases R6.out.row.2 with e | ⟨g, cap, cur, e, k1, k2, k3⟩
    · exact .inl e
    · have hgg : w5.heap[g]? = some (.cells cur 89 (0, 0)) := (G5.out.block g (Array.getElem?_eq_some_iff.1 k2).1 (fun x => R6.out.row_ne2 (by rw [← x, e]; rfl))).trans k2
      exact .inr ⟨g, cap, cur, e, k1, (Below.heap_alloc w5.drew _ g (Array.getElem?_eq_some_iff.1 hgg).1).trans hgg, k3⟩
  refine wp_append_wait (.tmp 48) (.tmp 50) (by kernel_rfl) B (.slice A3 s.spent.nw c3n) s.spent.nw (flat s.spent.W s.spent.nw) (by kernel_rfl) row6 w5.heap.size d a X (by kernel_rfl) (Blk.new w5.drew _ _) ?_ ?_ ?_
  · have := R6.out.nw_le
    have := EE.out
    omega
  · have := G5.out.size
    have := HW4.out.le
    simp
    have : w4.heap.size ≤ w5.heap.size := G5.out.size
    omega
  intro g7 cap7 w7 hr7 hg7 ho7 hl7
  have n6 : Below w5.heap.size w5 (w5.drew.alloc (.cells (waitI d a X) 89)) := ((Below.refl w5.heap.size w5).drew).alloc (Nat.le_refl _) _
  have R8 := Lib.hid (R6.out.wrote G5.out M5.out n6 hg7 hr7)
  have hB6 : B ≤ (w5.drew.alloc (.cells (waitI d a X) 89)).heap.size := by
    have := HW4.out.le
    have : w4.heap.size ≤ w5.heap.size := G5.out.size
    simp
    omega
  have K5 := (K4.out.drewN nq).ofMap (HW4.out.newest.drewN nq) G5.out HW4.out.h2
  have K7 := ((K5.new n6 (by have := HW4.out.le; have : w4.heap.size ≤ w5.heap.size := G5.out.size; omega))).grownRow row6 hB6 hg7
  have b7 : Blk w7 r 68 (rackA s.spent m1 (.slice A3 s.spent.nw c3n) m2) := ((R6.out.blk.grown G5.out (fun e => R6.out.ne2 (by injection e with e; exact e.symm))).new_ n6).grown hg7 (fun e => R6.out.row_ne e.symm)
  have K8 := Lib.hid (K7.setRack b7 R6.out.hr 3 (.slice (some ⟨g7, 0, none⟩) (s.spent.nw + 1) cap7))
  have c7 : (w7.cell? ⟨r, 3, none⟩).isSome = true := by
    rw [b7.cell, rackA_get _ _ _ _ (by omega)]
    rfl
  have f7 := b7.frozen 3
  have hst : (Instr.storeAt 64 (.pointer (some ⟨r, 3, none⟩)) (.slice (some ⟨g7, 0, none⟩) (s.spent.nw + 1) cap7)).run Tryz.prog w7 = .ok () (w7.setCell ⟨r, 3, none⟩ (.slice (some ⟨g7, 0, none⟩) (s.spent.nw + 1) cap7)) :=
    store_one isize_waits rfl rfl c7 f7 (add_plain _ _ _)
  have hS7 : AppS r w.heap.size (.slice A3 s.spent.nw c3n) (waitI d a X) w7 := by
    refine ⟨(b7.cell 3).trans (rackA_get _ _ _ _ (by omega)), ?_⟩
    exact (HS5.out.2.new_ n6).grown hg7 (fun e => by have := l3 _ e.symm; omega)
  clear hr7 hg7 ho7 hl7 K5 K7 b7 c7 f7 n6 row6
  refine ⟨fun _ => hS7, ?_⟩
  refine AnyZ.one (i := 8) (by kernel_rfl) ?_
  refine wpOp_val (v := .pointer (some ⟨r, 0, none⟩)) (w' := w7) rfl rfl (by kernel_rfl) ⟨fun _ => hS7, ?_⟩
  refine AnyZ.one (i := 9) (by kernel_rfl) ?_
  refine wpOp_val (v := .pointer (some ⟨r, 3, none⟩)) (w' := w7) rfl rfl (by kernel_rfl) ⟨fun _ => hS7, ?_⟩
  refine AnyZ.last_ (by kernel_rfl) (by kernel_rfl) rfl ?_
  refine wpOp_skip rfl rfl (exec_store (x := .tmp 53) (y := .tmp 51) rfl (by kernel_rfl) (by kernel_rfl) hst) ?_
  have OKW := Lib.hid (OK3.out.wrote (X := X) (by rw [EE.out.1]; exact hd) (by rw [EE.out.2.1]; exact ha) (fun j hj => (HX.out j hj).2) (by rw [EE.out.2.2.2.2.1]; exact hcost))
  generalize w7.setCell ⟨r, 3, none⟩ (.slice (some ⟨g7, 0, none⟩) (s.spent.nw + 1) cap7) = w8 at *
  clear hst hS7
  clear c4 c3 q0 q1 hcp hz hs5 l3
  go_wp2_with fail
  go_ret
  rw [EV.out.1, EV.out.2]
  exact ⟨by kernel_rfl, ⟨OKW.out, m1, m2, _, R8.out⟩, K8.out⟩
end Go.Proofs.YthioanenljpclaaGreatDoor
namespace Go.Proofs.YthioanenljpclaaGreatDoor
open Go Go.RowKit refRack
set_option maxRecDepth 100000
set_option linter.unusedVariables false
theorem wr_totF {B : Nat} (w : World) (r : Nat) (s : RS) (D A : Int) (gb c : Nat) (X : Nat → Nat) (hb : RowF w gb 128 X) (hX : ∀ j, j < 128 → X j < 256) (hcost : s.cost + 1 ≤ 1000000) (h : RackAt B w r s) :
    Calls Tryz.prog 21 #[.pointer (some ⟨r, 0, none⟩), .int .i64 D, .int .i64 A, .slice (some ⟨gb, 0, none⟩) 128 c] w fun e w' => e = .returned (.int .i64 (wrE s D A 128)) ∧ RackAt B w' r (wrS s D A 128 X) ∧ Keep B w w' := by
  obtain ⟨cs, fr, hb, hf, hc⟩ := hb
  unfold refRack.wrE refRack.wrS
  rw [if_pos rfl]
  by_cases h1 : s.why D A = 0
  · rw [if_pos h1, if_pos (show 128 = 128 ∧ s.why D A = 0 from ⟨rfl, h1⟩)]
    obtain ⟨d, a, rfl, rfl, h2, h3, h4⟩ := why_some h1
    rw [Int.toNat_natCast, Int.toNat_natCast]
    exact write_goF w r s _ _ d a gb 0 c X 5 cs h h2 h3 h4 hb rfl (fun j hj => ⟨by rw [Nat.zero_add]; exact hc j hj, hX j hj⟩) hcost rfl rfl
  · rw [if_neg h1, if_neg (show ¬(128 = 128 ∧ s.why D A = 0) from fun q => h1 q.2)]
    exact write_why w r s D A _ c h h1
theorem exec_convW {P : Program} {a : Act} {o : Oper} {s t : TypeId} {x : Operand} {u v : Value} (w w' : World) (e : o.op = .convert s t x) (hx : a.eval x = u) (hf : (convert s t u).run P w = .ok v w') : (execOp a.eval o).run P w = .ok (.value v) w' := by
  unfold execOp; simp only [e, hx, hf, Sem.run_bind, Sem.run_pure, Result.andThen_ok]
namespace Lab
theorem enc_cases {u : U} (hf : FitU u) : (encE u = 0 ∧ K.txt (outB u) = strB 128 (lst (encL u)) ∧ ∀ j, j < 128 → lst (encL u) j < 256) ∨ encE u = 2 := by
  by_cases hok : okU u = true
  · have hp : K.okP u.p = true := by unfold okU at hok; rw [Bool.and_eq_true] at hok; exact hok.2
    refine .inl ⟨by unfold encE; rw [if_pos hok], ?_, fun j _ => lst_lt (encL_lt hp hf) j⟩
    have hV : outB u = encL u := by unfold outB; rw [if_pos hok]
    rw [hV, ← encL_length hp hf, strB_lst]
  · exact .inr (by unfold encE; rw [if_neg hok])
section
variable {B : Nat} {w w' : World} {r g c : Nat} {s t : RS}
theorem lab_wr (w : World) (h : Both B w r g s t c) (D A : Int) (gb k : Nat) (X : Nat → Nat) (hb : RowF w gb 128 X) (hX : ∀ j, j < 128 → X j < 256) (hc : c ≤ 100000) :
    Calls Tryz.prog 21 #[.pointer (some ⟨r, 0, none⟩), .int .i64 D, .int .i64 A, .slice (some ⟨gb, 0, none⟩) 128 k] w fun e w' => e = .returned (.int .i64 (wrE s D A 128)) ∧ Mid B w w' r g (wrS s D A 128 X) t :=
  (wr_totF w r s D A gb k X hb hX (by have := h.cost; omega) h.rack).mono fun e w' ⟨h1, h2, h3⟩ => ⟨h1, Mid.of h h2 h3⟩
theorem doc_wr {w0 : World} (h0 : Both B w0 r g s t c) (D A : Int) (X : Nat → Nat) (hc : c ≤ 100000) (h : Mid B w0 w r g (wrS s D A 128 X) t) :
    Calls Tryz.prog 22 #[.pointer (some ⟨g, 0, none⟩), .int .i64 D, .int .i64 A, .string (strB 128 X)] w fun e w' => e = .returned (.int .i64 (wrE s D A 128)) ∧ Both B w' r g (wrS s D A 128 X) (wrS t D A 128 X) (c + 1) ∧ KeepZ B w0 w' :=
  (wr_tot_k w g t D A 128 X h0.left (by have := h0.nw; omega) h.ref).mono fun e w' ⟨h1, h2, h3⟩ => ⟨by rw [h1, h0.sim.wrE D A 128], h.then h2 h3 (h0.sim.wrS D A 128 X) (by have := wrS_cost s D A 128 X; have := h0.cost; omega)⟩
end
end Lab
end Go.Proofs.YthioanenljpclaaGreatDoor
namespace Go.Proofs.YthioanenljpclaaGreatDoor.Lab
open Go Go.RowKit
set_option maxRecDepth 100000
set_option linter.unusedVariables false
theorem sectors_nil (w : World) : Calls Tryz.prog 54 #[.pointer none] w fun e w' => e = .returned (.int .i64 0) ∧ w = w' := by
  go_enter Tryz.func54, Tryz.ntmps54
  go_wp2_with fail
  go_ret
  exact ⟨rfl, rfl⟩
theorem fits_nil (w : World) : Calls Tryz.prog 32 #[.pointer none] w fun e w' => e = .returned (.bool false) ∧ w = w' := by
  have HS := Lib.hid (sectors_nil w)
  go_enter Tryz.func32, Tryz.ntmps32
  go_wp2_with fail
  refine HS.out.mono ?_
  rintro e w' ⟨rfl, rfl⟩
  go_wp2_with fail
  go_ret
  exact ⟨rfl, rfl⟩
set_option maxHeartbeats 1600000 in
theorem newest_nil (w : World) : Calls Tryz.prog 25 #[.pointer none] w fun e w' => (∃ v, e = .returned (.tuple #[v, .int .i64 1])) ∧ Below w.heap.size w w' := by
  have X0 : Hid (Blk (w.alloc (.cells #[.int .i64 0, .int .i64 0, .int .i64 0, .int .i64 0, .string ⟨#[]⟩] 41)) w.heap.size 41 #[.int .i64 0, .int .i64 0, .int .i64 0, .int .i64 0, .string ⟨#[]⟩]) := Lib.hid (Blk.new _ _ _)
  have L0 : Hid (Below w.heap.size w (w.alloc (.cells #[.int .i64 0, .int .i64 0, .int .i64 0, .int .i64 0, .string ⟨#[]⟩] 41))) := Lib.hid ((Below.refl _ _).alloc (Nat.le_refl _) _)
  have HF := Lib.hid (fits_nil (w.alloc (.cells #[.int .i64 0, .int .i64 0, .int .i64 0, .int .i64 0, .string ⟨#[]⟩] 41)))
  obtain ⟨⟨d0, d1, d2, d3, d4⟩, e0, e1, e2, e3, e4⟩ := uber_facts X0.out
  go_enter Tryz.func25, Tryz.ntmps25
  go_wp2_with fail
  refine HF.out.mono ?_
  rintro e w' ⟨rfl, rfl⟩
  go_wp2_with fail
  refine bodyPost_ret (results_cell2 rfl rfl (loadVar_blk X0.out Tryz.underlying41 rfl isize_uber) rfl) rfl ?_
  exact ⟨⟨_, rfl⟩, L0.out⟩
set_option maxHeartbeats 1600000 in
theorem write_nil (w : World) (a b c d : Int) (s : ByteArray) : Calls Tryz.prog 7 #[.pointer none, .agg #[.int .i64 a, .int .i64 b, .int .i64 c, .int .i64 d, .string s]] w fun e w' => e = .returned (.tuple #[.int .i64 0, .int .i64 1]) ∧ Below w.heap.size w w' := by
  have L0 : Hid (Below w.heap.size w (w.alloc (.cells #[.int .i64 a, .int .i64 b, .int .i64 c, .int .i64 d, .string s] 41))) := Lib.hid ((Below.refl _ _).alloc (Nat.le_refl _) _)
  have HF := Lib.hid (fits_nil (w.alloc (.cells #[.int .i64 a, .int .i64 b, .int .i64 c, .int .i64 d, .string s] 41)))
  go_enter Tryz.func7, Tryz.ntmps7
  go_wp2_with fail
  refine HF.out.mono ?_
  rintro e w' ⟨rfl, rfl⟩
  go_wp2_with fail
  go_ret2
  exact ⟨rfl, L0.out⟩
end Go.Proofs.YthioanenljpclaaGreatDoor.Lab
