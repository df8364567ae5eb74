/-
  The walk of 'SpaceFits': as long as there are n free cells in a row, n are taken, the first ones; afterwards there are none.
-/
import Derived.Test.YtffbclendkojlaaSpcTwo
import Derived.Test.YtffbclendkojlaaGenArgs
namespace Go.Proofs.Ytffbclendkojlaa
open Go Go.RowKit
set_option maxRecDepth 100000
set_option linter.unusedVariables false
namespace spaceFits
open Sp
theorem infoRG : (Try.prog.info? 34).map (fun i => (i.zero, i.size, i.bytes)) = some (some (.agg #[.int .i64 0, .int .i64 0]), 2, 16) := by kernel_rfl
theorem bs_range (x y : Int) (w : World) : (Instr.buildSlice 31 1 #[(0, .agg #[.int .i64 x, .int .i64 y])]).run Try.prog w = .ok (.slice (some ⟨w.heap.size, 0, none⟩) 1 1) (w.alloc (.cells #[.int .i64 x, .int .i64 y] 34)) := by kernel_rfl
theorem index_ref (b o n c i : Nat) (h : i < n) (w : World) : (Instr.indexAt 22 (.slice (some ⟨b, o, none⟩) n c) (.int .i64 (i : Int))).run Try.prog w = .ok (.pointer (some ⟨b, o + i * 2, none⟩)) w :=
  Gr.index_gen Try.underlying22 (by kernel_rfl) b o n c i h w
theorem append_rgZ {w : World} {base : Nat} {v : Value} {l : List (Int × Int)} (h : Gr.OwnG 34 2 Gr.cs2 w base v l) (r : Int × Int) (hl : l.length ≤ 1000000) (hb : base ≤ w.heap.size) (ty : TypeId) :
    ∃ v' w', (Builtin.append_ #[31, 31] ty #[v, .slice (some ⟨w.heap.size, 0, none⟩) 1 1]).run Try.prog (w.alloc (.cells #[.int .i64 r.1, .int .i64 r.2] 34)) = .ok v' w' ∧ Gr.OwnG 34 2 Gr.cs2 w' base v' (l ++ [r]) ∧ Below base w w' ∧ w.heap.size ≤ w'.heap.size := by
  have hb1 : Below w.heap.size w (w.alloc (.cells #[.int .i64 r.1, .int .i64 r.2] 34)) := (Below.refl _ _).alloc (Nat.le_refl _) _
  have h1 := h.below hb1 (Nat.le_refl _)
  obtain ⟨v', w', e1, e2, e3, e4⟩ := Gr.run_append (E := 34) (k := 2) (cs := Gr.cs2) (z := .agg #[.int .i64 0, .int .i64 0]) (bytes := 16) (m := [r]) (c := 1) (fun _ => rfl) (fun x u hu => by simp [Gr.cs2] at hu; rcases hu with rfl | rfl <;> rfl) Try.underlying31 infoRG rfl (by omega) (by omega) ty h1 (Gr.one_cells r w 34) (by simp; omega) (Nat.le_trans hb hb1.size)
  exact ⟨v', w', e1, e2, ⟨e3.os.trans hb1.os, e3.tape.trans hb1.tape, e3.output.trans hb1.output, Nat.le_trans hb1.size e3.size, fun g hg => (e3.block g (by have := hb1.size; omega) (fun e => by have := (h.lt e.symm).2; omega)).trans (hb1.block g (by omega))⟩, Nat.le_trans hb1.size e3.size⟩
theorem rdz2_of {w : World} {A : Option Addr} {l : List (Int × Int)} (h : Gr.RdG 2 Gr.cs2 w A l) : RdZ2 w A l := fun i r hr => by
  obtain ⟨b, o, h1, h2, h3⟩ := h i r hr
  exact ⟨b, o, h1, h2, h3 0 _ rfl, h3 1 _ rfl⟩
theorem rowL_cnt {n a : Nat} : ∀ {l : List Rg}, rowL n l = some a → n ≤ cnt l
  | [], h => by cases h
  | r :: l, h => by
    unfold rowL at h
    show n ≤ (r.2 - r.1) + cnt l
    by_cases hx : n ≤ r.2 - r.1
    · omega
    · rw [if_neg hx] at h
      have := rowL_cnt h
      omega
theorem newS_err {C : Int} {l : List (Int × Int)} {x : Int} (h : newS C l = .error x) : x ≠ 0 := by
  unfold newS at h
  split at h
  · injection h with h; omega
  · split at h
    · split at h
      · cases h
      · injection h with h; omega
    · injection h with h; omega
theorem putAll_kept : ∀ {l : List (Int × Int)} {s s' : SS}, putAll s l = some s' → s'.kept = s.kept ∧ s'.cells = s.cells
  | [], s, s', h => by injection h with h; subst h; exact ⟨rfl, rfl⟩
  | r :: l, s, s', h => by
    have h1 : (if hasL r.1.toNat r.2.toNat (s.S 0) then putAll (s.mv 0 1 r.1.toNat r.2.toNat) l else none) = some s' := h
    split at h1
    · obtain ⟨h2, h3⟩ := putAll_kept h1
      exact ⟨h2, h3⟩
    · cases h1
theorem newS_ok {C : Nat} {l : List (Int × Int)} {s : SS} (h : newS (C : Int) l = .ok s) : s.kept = 0 ∧ s.cells = C := by
  unfold newS at h
  split at h
  · cases h
  · split at h
    · split at h
      · rename_i s' hs
        injection h with h
        subst h
        exact putAll_kept hs
      · cases h
    · cases h
/-- behind a take of n cells the next n in a row come later -/
theorem row_rise {s : SS} (hg : Sp.Good s) {n x y : Nat} (hn : 1 ≤ n) (h1 : rowL n (s.S 0) = some x) (h2 : rowL n ((s.mv 0 1 x (x + n)).S 0) = some y) : x < y := by
  obtain ⟨hh, hc⟩ := row_has hg hn h1
  have hM := hg.mv_mem (f := 0) (t := 1) (by omega) (by omega) (by omega) (show x < x + n by omega) hh 0 (by omega)
  have hg2 := hg.mv (f := 0) (t := 1) (by omega) (by omega) (by omega) (show x < x + n by omega) hh
  have a1 := ((hg.ris 0 (by omega)).row_some hn h1).2
  have a2 := ((hg2.ris 0 (by omega)).row_some hn h2).1
  have old : ∀ c, y ≤ c → c < y + n → mem (s.S 0) c ∧ ¬ (x ≤ c ∧ c < x + n) := fun c e1 e2 => by
    have e3 := (hM c).1 (a2 c e1 e2)
    by_cases e4 : x ≤ c ∧ c < x + n
    · rw [if_pos e4] at e3; omega
    · rw [if_neg e4] at e3; exact ⟨e3, e4⟩
  have b1 := a1 y fun c e1 e2 => (old c e1 e2).1
  have b2 := (old y (Nat.le_refl _) (by omega)).2
  omega
/-- so far: is there a place, and which -/
def Looked (n : Nat) (l : List Rg) (k : Nat) (f : Bool) (fst : Nat) : Prop := if f then rowL n l = some fst else rowL n l = rowL n (l.drop k) ∧ fst = 0
set_option maxHeartbeats 12800000 in
theorem walk (a0 : Int) (A : Option Addr) (l : List (Int × Int)) (cap : Nat) (a2 : Int) (w : World) (h0 : (Lit.int .i64 a0).wf = true) (hrd : Gr.RdG 2 Gr.cs2 w A l) (hz : ∀ y ∈ l, Gr.Z64' y.1 ∧ Gr.Z64' y.2) (hlc : l.length ≤ cap) (hcm : cap ≤ maxLen) (hn0 : A = none → cap = 0) (h2 : (Lit.int .i64 a2).wf = true) :
    Calls Try.prog 7 #[.int .i64 a0, .slice A l.length cap, .int .i64 a2] w fun e w' => e = .returned (.bool true) ∧ Below w.heap.size w w' := by
  unfold maxLen at hcm
  have HRD := Lib.hid hrd
  have HZ := Lib.hid hz
  obtain ⟨nl, hnl⟩ : ∃ nl, nl = l.length := ⟨_, rfl⟩
  have HNL := Lib.hid hnl
  rw [← hnl] at hlc ⊢
  clear h0 h2 hrd hz hn0 hnl
  go_enter Try.func7, Try.ntmps7
  go_wp2_with fail
  refine (known_any _).mono ?_
  rintro e w1 ⟨rfl, b1⟩
  have L1 := Lib.hid b1
  clear b1
  obtain ⟨n0, hn0, hn0b⟩ := umodN a0 70 (by omega) (by omega)
  obtain ⟨C, hC⟩ : ∃ C, C = 1 + n0 := ⟨_, rfl⟩
  have hC1 : 1 ≤ C := by omega
  have hC2 : C ≤ 70 := by omega
  have hq0 : wrap64 (1 + wrap64 ((IntKind.u64.wrap a0).tmod 70)) = (C : Int) := by
    rw [show (70 : Int) = ((70 : Nat) : Int) from rfl, hn0]
    unfold wrap64
    omega
  clear hn0 hC hn0b
  obtain ⟨m0, hm0, hm0b⟩ := umodN a2 8 (by omega) (by omega)
  obtain ⟨n, hn⟩ : ∃ n, n = 1 + m0 := ⟨_, rfl⟩
  have hn1 : 1 ≤ n := by omega
  have hn2 : n ≤ 8 := by omega
  have hq2 : wrap64 (1 + wrap64 ((IntKind.u64.wrap a2).tmod 8)) = (n : Int) := by
    rw [show (8 : Int) = ((8 : Nat) : Int) from rfl, hm0]
    unfold wrap64
    omega
  clear hm0 hn hm0b
  go_upto_region 5 with (fail)
  rw [hq0, hq2]
  clear hq0 hq2
  obtain ⟨B, hB⟩ : ∃ B, B = w1.heap.size := ⟨_, rfl⟩
  have HB : Hid (w.heap.size ≤ B) := Lib.hid (by rw [hB]; exact L1.out.size)
  have ST : Hid (Gr.OwnG 34 2 Gr.cs2 w1 B (.slice none 0 0) (l.take 0)) := Lib.hid (Gr.OwnG.nil _ _)
  have LB1 : Hid (Below B w1 w1) := Lib.hid (Below.refl _ _)
  have hBs : B ≤ w1.heap.size := by omega
  have HRD1 := Lib.hid (HRD.out.below L1.out)
  have HRB : Hid (∀ wr, Below B w1 wr → Gr.RdG 2 Gr.cs2 wr A l) := Lib.hid fun wr hb => by
    rw [hB] at hb
    exact HRD1.out.below hb
  have HBE := Lib.hid hB
  clear hB HRD
  go_wp2_with fail
  go_loopw [7, 8] (fun v y wr => ∃ i : Nat, i ≤ nl ∧ i ≤ 10 ∧ y = .int .i64 (i : Int) ∧ Hid (Gr.OwnG 34 2 Gr.cs2 wr B v (l.take i)) ∧ Hid (Below B w1 wr) ∧ B ≤ wr.heap.size) (fun _ y _ => 10 - (intOf y).toNat)
  case atStart => exact ⟨0, by omega, by omega, rfl, ST, LB1, hBs⟩
  case round =>
    clear ST LB1 hBs
    obtain ⟨i, hi, hi10, rfl, HO, LB, hBs⟩ := hrel
    by_cases hlt : i < nl ∧ i < 10
    · obtain ⟨hlt1, hlt2⟩ := hlt
      have i1 : (i : Int) < (nl : Int) := by omega
      have i2 : (i : Int) < 10 := by omega
      have hil : i < l.length := by have := HNL.out; omega
      obtain ⟨r, hr⟩ : ∃ r, r = l[i] := ⟨_, rfl⟩
      have hri : l[i]? = some r := by rw [hr]; exact List.getElem?_eq_getElem hil
      obtain ⟨g, o, hA, hgb, hcells⟩ := HRB.out _ LB.out i r hri
      have k1 := hcells 0 (.int .i64 r.1) rfl
      have k2 := hcells 1 (.int .i64 r.2) rfl
      rw [Nat.add_zero] at k1
      obtain ⟨A2, c2, hv, _, _, _, _, _⟩ := HO.out.shape (fun _ => rfl)
      have hlen : (l.take i).length = i := by rw [List.length_take]; omega
      rw [hlen] at hv
      have htk : l.take (i + 1) = l.take i ++ [r] := by
        rw [List.take_succ_eq_append_getElem hil, hr]
      have HTK := Lib.hid (⟨htk, hlen, hv⟩ : _ ∧ _ ∧ _)
      subst hv
      subst hA
      have HCF : Hid (∀ w', Below B w1 w' → w'.cell? ⟨g, o + i * 2, none⟩ = some (.int .i64 r.1) ∧ w'.cell? ⟨g, o + i * 2 + 1, none⟩ = some (.int .i64 r.2)) := Lib.hid fun w' hb => by
        obtain ⟨g', o', hA', _, hc'⟩ := HRB.out w' hb i r hri
        injection hA' with e1
        injection e1 with e2 e3
        subst e2 e3
        exact ⟨by have := hc' 0 (.int .i64 r.1) rfl; rw [Nat.add_zero] at this; exact this, hc' 1 (.int .i64 r.2) rfl⟩
      have HS := Lib.hid (⟨k1, k2⟩ : wr.cell? ⟨g, o + i * 2, none⟩ = some (.int .i64 r.1) ∧ wr.cell? ⟨g, o + i * 2 + 1, none⟩ = some (.int .i64 r.2))
      have HSD : Hid (wr.drew.cell? ⟨g, o + i * 2, none⟩ = some (.int .i64 r.1) ∧ wr.drew.cell? ⟨g, o + i * 2 + 1, none⟩ = some (.int .i64 r.2)) := HS
      obtain ⟨x, y⟩ := r
      clear hri hr hil hgb hcells k1 k2 htk hlen HS
      go_upto_region 9 with (fail)
      refine region_anyZ (fun w' => w'.cell? ⟨g, o + i * 2, none⟩ = some (.int .i64 x) ∧ w'.cell? ⟨g, o + i * 2 + 1, none⟩ = some (.int .i64 y)) 15 (by kernel_rfl) ?_
      refine takeG 0 (.move (.tmp 7)) (some 41) none (.slice A2 i c2) (by kernel_rfl) (by kernel_rfl) (by kernel_rfl) (fun _ _ _ h => h) (fun o' wq e hS => exec_move wq e (by kernel_rfl)) HSD.out ?_
      refine takeG 1 (.move (.tmp 1)) (some 42) none (.slice (some ⟨g, o, none⟩) nl cap) (by kernel_rfl) (by kernel_rfl) (by kernel_rfl) (fun _ _ _ h => h) (fun o' wq e hS => exec_move wq e (by kernel_rfl)) HSD.out ?_
      refine takeG 2 (.move (.tmp 8)) (some 43) none (.int .i64 (i : Int)) (by kernel_rfl) (by kernel_rfl) (by kernel_rfl) (fun _ _ _ h => h) (fun o' wq e hS => exec_move wq e (by kernel_rfl)) HSD.out ?_
      refine takeG 3 (.indexAddr 22 (.tmp 42) (.tmp 43)) (some 44) none (.pointer (some ⟨g, o + i * 2, none⟩)) (by kernel_rfl) (by kernel_rfl) (by kernel_rfl) (fun _ _ _ h => h) (fun o' wq e hS => exec_index (u1 := .slice (some ⟨g, o, none⟩) nl cap) (u2 := .int .i64 (i : Int)) wq e (by kernel_rfl) (by kernel_rfl) (index_ref g o nl cap i hlt1 _)) HSD.out ?_
      refine takeG 4 (.fieldAddr 33 (.tmp 44) 0) (some 45) none (.pointer (some ⟨g, o + i * 2, none⟩)) (by kernel_rfl) (by kernel_rfl) (by kernel_rfl) (fun _ _ _ h => h) (fun o' wq e hS => exec_field (u := .pointer (some ⟨g, o + i * 2, none⟩)) wq e (by kernel_rfl) (by kernel_rfl)) HSD.out ?_
      refine takeG 5 (.load 3 (.tmp 45)) (some 46) none (.int .i64 x) (by kernel_rfl) (by kernel_rfl) (by kernel_rfl) (fun _ _ _ h => h) (fun o' wq e hS => exec_load (x := (.tmp 45)) e (by kernel_rfl) (load_one Try.underlying3 (by kernel_rfl) hS.1)) HSD.out ?_
      refine takeG 6 (.move (.tmp 1)) (some 47) none (.slice (some ⟨g, o, none⟩) nl cap) (by kernel_rfl) (by kernel_rfl) (by kernel_rfl) (fun _ _ _ h => h) (fun o' wq e hS => exec_move wq e (by kernel_rfl)) HSD.out ?_
      refine takeG 7 (.move (.tmp 8)) (some 48) none (.int .i64 (i : Int)) (by kernel_rfl) (by kernel_rfl) (by kernel_rfl) (fun _ _ _ h => h) (fun o' wq e hS => exec_move wq e (by kernel_rfl)) HSD.out ?_
      refine takeG 8 (.indexAddr 22 (.tmp 47) (.tmp 48)) (some 49) none (.pointer (some ⟨g, o + i * 2, none⟩)) (by kernel_rfl) (by kernel_rfl) (by kernel_rfl) (fun _ _ _ h => h) (fun o' wq e hS => exec_index (u1 := .slice (some ⟨g, o, none⟩) nl cap) (u2 := .int .i64 (i : Int)) wq e (by kernel_rfl) (by kernel_rfl) (index_ref g o nl cap i hlt1 _)) HSD.out ?_
      refine takeG 9 (.fieldAddr 33 (.tmp 49) 1) (some 50) none (.pointer (some ⟨g, o + i * 2 + 1, none⟩)) (by kernel_rfl) (by kernel_rfl) (by kernel_rfl) (fun _ _ _ h => h) (fun o' wq e hS => exec_field (u := .pointer (some ⟨g, o + i * 2, none⟩)) wq e (by kernel_rfl) (by kernel_rfl)) HSD.out ?_
      refine takeG 10 (.load 3 (.tmp 50)) (some 51) none (.int .i64 y) (by kernel_rfl) (by kernel_rfl) (by kernel_rfl) (fun _ _ _ h => h) (fun o' wq e hS => exec_load (x := (.tmp 50)) e (by kernel_rfl) (load_one Try.underlying3 (by kernel_rfl) hS.2)) HSD.out ?_
      refine takeG 11 (.build 34 #[(0, (.tmp 46)), (1, (.tmp 51))]) (some 52) none (.agg #[.int .i64 x, .int .i64 y]) (by kernel_rfl) (by kernel_rfl) (by kernel_rfl) (fun _ _ _ h => h) (fun o' wq e hS => exec_bld2 (u0 := .int .i64 x) (u1 := .int .i64 y) wq e (by kernel_rfl) (by kernel_rfl) (by kernel_rfl)) HSD.out ?_
      refine loneG 12 (.buildSlice 31 1 #[(0, (.tmp 52))]) (some 53) none (by kernel_rfl) (by kernel_rfl) (by kernel_rfl) ?_
      intro o' ho hod
      refine wp_val (exec_buildSlice1 ho (by kernel_rfl) (bs_range x y _)) ?_
      rw [hod]
      clear hod ho
      have HS2 : Hid ((wr.drew.alloc (.cells #[.int .i64 x, .int .i64 y] 34)).cell? ⟨g, o + i * 2, none⟩ = some (.int .i64 x) ∧ (wr.drew.alloc (.cells #[.int .i64 x, .int .i64 y] 34)).cell? ⟨g, o + i * 2 + 1, none⟩ = some (.int .i64 y)) := Lib.hid (HCF.out _ (LB.out.drew.alloc hBs _))
      refine ⟨fun _ => HS2.out, ?_⟩
      refine loneG 13 (.call ⟨.builtin .append, #[(.tmp 41), (.tmp 53)], #[31, 31]⟩) (some 54) none (by kernel_rfl) (by kernel_rfl) (by kernel_rfl) ?_
      intro o' ho hod
      obtain ⟨v2, w2, hrun, ho2, hb2, hsz2⟩ := append_rgZ (w := wr.drew) (HO.out.keep fun _ _ => rfl) (x, y) (by rw [HTK.out.2.1]; omega) hBs o'.type
      refine Gr.wp_append 31 (.tmp 41) (.tmp 53) ho (by kernel_rfl) (by kernel_rfl) hrun ?_
      rw [hod]
      clear hod ho
      have LB2 := Lib.hid (LB.out.drew.trans hb2)
      have HO2 : Hid (Gr.OwnG 34 2 Gr.cs2 w2 B v2 (l.take (i + 1))) := Lib.hid (by rw [HTK.out.1]; exact ho2)
      have hBs2 : B ≤ w2.heap.size := Nat.le_trans hBs hsz2
      have HS3 := Lib.hid (HCF.out w2 LB2.out)
      refine ⟨fun _ => HS3.out, ?_⟩
      refine lastS 14 (.assign (.tmp 54)) (some 7) (v2) (by kernel_rfl) (by kernel_rfl) (by kernel_rfl) HS3.out (fun o' e => exec_assign _ e (by kernel_rfl)) ?_
      simp only [put_some, put_none, List.setIfInBounds_toArray, List.set_cons_succ, List.set_cons_zero]
      clear hrun
      go_wp2_with fail
      go_roundw
      case rel => exact ⟨i + 1, by omega, by omega, by go_num, HO2, LB2, hBs2⟩
      case measure => simp [intOf]; omega
    · obtain ⟨lim, hlim⟩ : ∃ lim, lim = i := ⟨_, rfl⟩
      have KK : Hid ((l.take i).length ≤ 10) := Lib.hid (by rw [List.length_take]; omega)
      obtain ⟨A2, c2, hv, hrd2, _, _, _, _⟩ := HO.out.shape (fun _ => rfl)
      have HN := Lib.hid (new_at wr (C : Int) A2 (l.take i) c2 (by have := KK.out; omega) (rdz2_of hrd2) (fun r hr => HZ.out r (List.mem_of_mem_take hr)))
      obtain ⟨nt, hnt⟩ : ∃ nt, nt = (l.take i).length := ⟨_, rfl⟩
      rw [← hnt] at hv HN
      subst hv
      have LWR : Hid (Below w.heap.size w wr) := Lib.hid (L1.out.trans (LB.out.mono HB.out))
      have hsplit : ¬ i < nl ∨ (i < nl ∧ ¬ i < 10) := by omega
      clear hlt hrd2 hnt HO LB hlim
      have MAIN : ∀ (T0 : Array Value), True := fun _ => trivial
      have hsplit2 : (¬ (i : Int) < (nl : Int)) ∨ ((i : Int) < (nl : Int) ∧ ¬ (i : Int) < 10) := by omega
      clear hsplit MAIN
      rcases hsplit2 with hs | ⟨hs, hs2⟩
      all_goals
        go_wp2_with fail
        refine HN.out.mono ?_
        rintro e w2 ⟨hp, hb⟩
        have L2 : Hid (Below w.heap.size w w2) := Lib.hid (LWR.out.trans (hb.mono LWR.out.size))
        clear hb LWR
        cases hq : newS (C : Int) (l.take i) with
        | error x =>
          rw [hq] at hp
          have hx : x ≠ 0 := newS_err hq
          obtain rfl := hp
          clear hq HN
          go_wp2_with fail
          go_ret
          exact ⟨rfl, L2.out⟩
        | ok s0 =>
          rw [hq] at hp
          obtain ⟨b, m, rfl, hsp⟩ := hp
          obtain ⟨hkc, hcc⟩ := newS_ok hq
          obtain ⟨B2, hB2⟩ : ∃ B2, B2 = wr.heap.size := ⟨_, rfl⟩
          rw [← hB2] at hsp
          have HB2 : Hid (w.heap.size ≤ B2) := Lib.hid (by rw [hB2]; have := HB.out; omega)
          have HSP := Lib.hid hsp
          have HKC := Lib.hid (⟨hkc, hcc⟩ : s0.kept = 0 ∧ s0.cells = C)
          have HC0 : Hid (cnt (s0.S 0) + 0 ≤ C) := Lib.hid (by
            have h1 := (hsp.good.ris 0 (by omega)).cnt_le (hsp.good.in_ 0 (by omega))
            omega)
          have HL0 : Hid (∀ a', rowL n (s0.S 0) = some a' → (-1 : Int) < (a' : Int)) := Lib.hid fun a' _ => by omega
          clear hsp hkc hcc hB2 hq HN
          go_wp2_with fail
          go_loopw [11, 12] (fun z y wq => ∃ (i : Nat) (s : SS) (last : Int), i ≤ C ∧ y = .int .i64 (i : Int) ∧ z = .int .i64 last ∧ Hid (SpA B2 wq b m s) ∧ Hid (s.kept = 0 ∧ s.cells = C) ∧ Hid (cnt (s.S 0) + i ≤ C) ∧ Hid (∀ a', rowL n (s.S 0) = some a' → last < (a' : Int)) ∧ Hid (Below w.heap.size w wq)) (fun _ y _ => C - (intOf y).toNat)
          case atStart => exact ⟨0, s0, -1, by omega, rfl, rfl, HSP, HKC, HC0, HL0, L2⟩
          case round =>
            clear HSP HKC HC0 HL0 L2
            obtain ⟨j, s, last, hj, rfl, rfl, HSP, HKC, HCN, HLA, L3⟩ := hrel
            have j1 : (j : Int) ≤ (C : Int) := by omega
            go_wp2_with fail
            refine (ranges_at HSP.out).mono ?_
            rintro e w3 ⟨v3, rfl, o3, s3, b3⟩
            obtain ⟨A3, c3, rfl, hR3, hlc3, _, _⟩ := o3.shape
            have HR3 := Lib.hid hR3
            have HS3 := Lib.hid s3
            have L4 := Lib.hid (L3.out.trans (b3.mono L3.out.size))
            obtain ⟨lr, hlr⟩ : ∃ lr, lr = s.S 0 := ⟨_, rfl⟩
            obtain ⟨nr, hnr⟩ : ∃ nr, nr = lr.length := ⟨_, rfl⟩
            rw [← hlr] at HR3
            rw [← hlr, ← hnr]
            have HLR := Lib.hid (⟨hlr, hnr⟩ : _ ∧ _)
            have HBD : Hid (∀ r ∈ lr, r.1 < r.2 ∧ r.2 ≤ 70) := Lib.hid fun r hr => by
              rw [hlr] at hr
              have h1 := (s3.good.ris 0 (by omega)).lt_ r hr
              have h2 := ((s3.good.ris 0 (by omega)).in_ (s3.good.in_ 0 (by omega)) r hr).2
              have h3 := HKC.out.2
              omega
            have hnb : nr ≤ 1000 := by
              rw [hnr, hlr]
              have h1 := (s3.good.ris 0 (by omega)).len (s3.good.in_ 0 (by omega))
              have h3 := HKC.out.2
              omega
            have LK0 : Hid (Looked n lr 0 false 0) := Lib.hid ⟨rfl, rfl⟩
            have LW0 : Hid (Below w3.heap.size w3 w3) := Lib.hid (Below.refl _ _)
            clear o3 s3 b3 hlr hnr hR3 hlc3 HSP L3
            go_wp2_with fail
            obtain ⟨w3', hw3⟩ : ∃ w3', w3' = w3 := ⟨_, rfl⟩
            go_loopw [14, 15, 16] (fun f t y wq => ∃ (k : Nat) (bf : Bool) (fst : Nat), k ≤ nr ∧ y = .int .i64 (k : Int) ∧ f = .bool bf ∧ t = .int .i64 (fst : Int) ∧ Hid (Looked n lr k bf fst) ∧ Hid (Below w3.heap.size w3 wq)) (fun _ _ y _ => nr - (intOf y).toNat)
            case atStart => exact ⟨0, false, 0, by omega, rfl, rfl, rfl, LK0, LW0⟩
            case round =>
              clear LK0 LW0
              obtain ⟨k, bf, fst, hk, rfl, rfl, rfl, LK, LW⟩ := hrel
              by_cases hgo : k < nr ∧ bf = false
              · obtain ⟨hk1, rfl⟩ := hgo
                have k1 : (k : Int) < (nr : Int) := by omega
                obtain ⟨r, g, o, hg, hAe, d1, d2⟩ := (HR3.out.below LW.out).at_ (i := k) (by have := HLR.out.2; omega)
                subst hAe
                have hbd := HBD.out r (List.mem_of_getElem? hg)
                obtain ⟨x, hx⟩ : ∃ x, x = r.1 := ⟨_, rfl⟩
                obtain ⟨y, hy⟩ : ∃ y, y = r.2 := ⟨_, rfl⟩
                rw [← hx] at d1 hbd
                rw [← hy] at d2 hbd
                have HG := Lib.hid (⟨hg, hx, hy⟩ : _ ∧ _ ∧ _)
                have hxy : x < y := hbd.1
                have hyb : y ≤ 70 := hbd.2
                have hsb : IntKind.i64.wrap ((y : Int) - (x : Int)) = (y : Int) - (x : Int) := IntWalk.i64_in _ (by omega)
                have HLK := Lib.hid LK.out.1
                have HF0 := Lib.hid LK.out.2
                clear hg hx hy hbd LK
                go_upto_region 22 with (fail)
                go_quiet (fail)
                have LWN := Lib.hid (below_drewN LW.out nq)
                have d1' : (wr.drewN nq).cell? ⟨g, o + k * 2, none⟩ = some (.int .i64 (x : Int)) := d1
                obtain ⟨wz, hwz⟩ : ∃ wz, wz = wr.drewN nq := ⟨_, rfl⟩
                rw [← hwz] at LWN d1' ⊢
                clear LW d1 d2 hwz hsb
                by_cases hf : n ≤ y - x
                · have f1 : (n : Int) ≤ (y : Int) - (x : Int) := by omega
                  have HLK2 : Hid (Looked n lr (k + 1) true x) := Lib.hid (by
                    show rowL n lr = some x
                    rw [HG.out.2.1]
                    exact rowL_hit HG.out.1 (by rw [← HG.out.2.1, ← HG.out.2.2]; exact hf) HLK.out)
                  clear HLK HG hf
                  go_upto_region 23 with (fail)
                  go_quiet (fail)
                  have LWM := Lib.hid (below_drewN LWN.out nq)
                  clear LWN d1'
                  go_wp2_with fail
                  go_roundw
                  case rel => exact ⟨k + 1, true, x, by omega, by go_num, rfl, rfl, HLK2, LWM⟩
                  case measure => simp [intOf]; omega
                · have f1 : ¬ ((n : Int) ≤ (y : Int) - (x : Int)) := by omega
                  have HLK2 : Hid (Looked n lr (k + 1) false 0) := Lib.hid ⟨rowL_skip HG.out.1 (by rw [← HG.out.2.1, ← HG.out.2.2]; exact hf) HLK.out, rfl⟩
                  have hfst : fst = 0 := HF0.out
                  subst hfst
                  clear HLK HG hf d1'
                  go_wp2_with fail
                  go_roundw
                  case rel => exact ⟨k + 1, false, 0, by omega, by go_num, rfl, rfl, HLK2, LWN⟩
                  case measure => simp [intOf]; omega
              · have LW3 := Lib.hid (L4.out.trans (LW.out.mono L4.out.size))
                have HS4 := Lib.hid (HS3.out.keep LW.out)
                have HT := Lib.hid (take_at HS4.out (n : Int) (by omega))
                have hways : (bf = true ∧ (k : Int) < (nr : Int)) ∨ (bf = true ∧ ¬ (k : Int) < (nr : Int)) ∨ (bf = false ∧ ¬ (k : Int) < (nr : Int)) := by
                  cases bf with
                  | true => by_cases hx : (k : Int) < (nr : Int)
                            · exact .inl ⟨rfl, hx⟩
                            · exact .inr (.inl ⟨rfl, hx⟩)
                  | false => exact .inr (.inr ⟨rfl, fun hx => hgo ⟨by omega, rfl⟩⟩)
                clear hgo L4 LW HS3 HR3 HBD
                have found : bf = true → takeS s (n : Int) = (((fst : Int), 0), s.mv 0 1 fst (fst + n)) ∧ rowL n (s.S 0) = some fst := fun hb => by
                  subst hb
                  have h1 : rowL n lr = some fst := LK.out
                  rw [HLR.out.1] at h1
                  have h2 := rowL_cnt h1
                  refine ⟨?_, h1⟩
                  rw [takeS_nat s n hn1, h1]
                  dsimp only
                  rw [if_pos (by rw [HKC.out.1]; omega)]
                rcases hways with ⟨rfl, hx⟩ | hways
                rotate_left
                rcases hways with ⟨rfl, hx⟩ | ⟨rfl, hx⟩
                rotate_left
                · have hnone : rowL n (s.S 0) = none := by
                    have h1 := LK.out.1
                    rw [HLR.out.1, List.drop_eq_nil_of_le (by have := HLR.out.2; rw [HLR.out.1] at this; omega)] at h1
                    exact h1
                  have ht : takeS s (n : Int) = ((0, 5), s) := by rw [takeS_nat s n hn1, hnone]
                  rw [ht] at HT
                  clear found hnone ht LK HLR
                  go_wp2_with fail
                  refine HT.out.mono ?_
                  rintro e w4 ⟨rfl, s4, b4⟩
                  have L5 := Lib.hid (LW3.out.trans (b4.mono HB2.out))
                  clear s4 b4 HT
                  go_wp2_with fail
                  go_ret
                  exact ⟨rfl, L5.out⟩
                all_goals
                  obtain ⟨ht, hr⟩ := found rfl
                  rw [ht] at HT
                  have hla := HLA.out fst hr
                  have hgood : Sp.Good s := HS4.out.good
                  obtain ⟨hh, hfc⟩ := row_has hgood hn1 hr
                  have hcnt := (hgood.mv_cnt (f := 0) (t := 1) (by omega) (by omega) (by omega) (show fst < fst + n by omega) hh).1
                  have hcn := HCN.out
                  have hj2 : j + 1 ≤ C := by omega
                  have HCN2 : Hid (cnt ((s.mv 0 1 fst (fst + n)).S 0) + (j + 1) ≤ C) := Lib.hid (by omega)
                  have HLA2 : Hid (∀ a', rowL n ((s.mv 0 1 fst (fst + n)).S 0) = some a' → (fst : Int) < (a' : Int)) := Lib.hid fun a' ha => by
                    have := row_rise hgood hn1 hr ha
                    omega
                  have HKC2 : Hid ((s.mv 0 1 fst (fst + n)).kept = 0 ∧ (s.mv 0 1 fst (fst + n)).cells = C) := HKC
                  have g1 : ¬ ((fst : Int) ≤ last) := by omega
                  have hfb : fst ≤ 70 := by have := HKC.out.2; omega
                  clear found ht hr hla hh hfc hcnt hcn LK HLR hgood HLA HCN
                  go_wp2_with fail
                  refine HT.out.mono ?_
                  rintro e w4 ⟨rfl, s4, b4⟩
                  have S5 := Lib.hid s4
                  have L5 := Lib.hid (LW3.out.trans (b4.mono HB2.out))
                  clear s4 b4 HT
                  go_wp2_with fail
                  go_roundw
                  case rel => exact ⟨j + 1, _, fst, hj2, by go_num, rfl, S5, HKC2, HCN2, HLA2, L5⟩
                  case measure => simp [intOf]; omega
end spaceFits
end Go.Proofs.Ytffbclendkojlaa
