/-
  The document's 'Ranges' of a state by a contract. No conditions beyond those that each theorem types.
-/
import Derived.Test.YtpbojhjbjnoihaaRefM
namespace Go.Proofs.Ytpbojhjbjnoihaa
open Go Go.RowKit
set_option maxRecDepth 100000
set_option linter.unusedVariables false
namespace Gr
theorem OwnG.some_ {α : Type} {E : TypeId} {k : Nat} {cs : α → List Value} {w : World} {base : Nat} {v : Value} {l : List α} (h : OwnG E k cs w base v l) (hk : ∀ x, (cs x).length = k) (hl : l ≠ []) :
    ∃ g c, v = .slice (some ⟨g, 0, none⟩) l.length c ∧ base ≤ g ∧ g < w.heap.size ∧ l.length ≤ c ∧ c ≤ maxLen ∧ (∀ i x, l[i]? = some x → ∀ j u, (cs x)[j]? = some u → w.cell? ⟨g, i * k + j, none⟩ = some u) ∧ ∀ o, w.frozen? ⟨g, o, none⟩ = false := by
  obtain ⟨A, c, e1, e2, e3, e4, e5, e6⟩ := h.shape hk
  rcases h.2 with ⟨h1, h2⟩ | ⟨g, cap, cur, h1, h2, h3, h4, h5, _⟩
  · exact absurd (List.eq_nil_of_length_eq_zero h2) hl
  · rw [e1] at h1
    injection h1 with h1 h7 h8
    subst h1 h8
    have hb : Blk w g E cur := h3
    refine ⟨g, c, e1, h2, hb.lt, e3, e4, fun i x hx j u hu => ?_, fun o => hb.frozen o⟩
    obtain ⟨b, o, f1, _, f3⟩ := e2 i x hx
    injection f1 with f1
    injection f1 with f1 f4
    subst f1 f4
    have := f3 j u hu
    rw [Nat.zero_add] at this
    exact this
end Gr
namespace Rf
open Sp
def csR (r : Rg) : List Value := [.int .i64 (r.1 : Int), .int .i64 (r.2 : Int)]
abbrev OwnR (w : World) (base : Nat) (v : Value) (l : List Rg) : Prop := Gr.OwnG 33 2 csR w base v l
theorem infoRR : (Try.prog.info? 33).map (fun i => (i.zero, i.size, i.bytes)) = some (some (.agg #[.int .i64 0, .int .i64 0]), 2, 16) := by kernel_rfl
theorem wpList_appR {w : World} {ops : Array Oper} {rest : List Oper} {o : Oper} {a : Act} {Q : Exit → Act → World → Prop} {B : Nat} {v : Value} {l : List Rg} {x y : Nat} (hgd : o.guard = none) (s t : Operand) (ho : o.op = .call { callee := .builtin .append, args := #[s, t], argTypes := #[22, 22] })
    (hs : a.eval s = v) (hy : a.eval t = .slice (some ⟨w.heap.size, 0, none⟩) 1 1) (h : OwnR w B v l) (hl : l.length ≤ 1000000) (hb : B ≤ w.heap.size)
    (hK : ∀ v' w', OwnR w' B v' (l ++ [(x, y)]) → Below B w w' → wpList Try.prog ops Q rest (a.put o.dst v') w') :
    wpList Try.prog ops Q (o :: rest) a (w.alloc (.cells #[.int .i64 (x : Int), .int .i64 (y : Int)] 33)) := by
  refine wpList_plain hgd fun K hK' => ?_
  have hb1 : Below w.heap.size w (w.alloc (.cells #[.int .i64 (x : Int), .int .i64 (y : Int)] 33)) := (Below.refl _ _).alloc (Nat.le_refl _) _
  obtain ⟨v', w', hrun, e2, e3, e4⟩ := Gr.run_append_b (E := 33) (k := 2) (cs := csR) (z := .agg #[.int .i64 0, .int .i64 0]) (bytes := 16) (m := [(x, y)]) (c := 1) (fun _ => rfl) (fun x u hu => by simp [csR] at hu; rcases hu with rfl | rfl <;> rfl) Try.underlying22 infoRR rfl (by omega) o.type (h.below hb1 (Nat.le_refl _)) (Gr.one_cells ((x, y) : Rg) w 33) (by simp; omega) (by simp; omega) (Nat.le_trans hb hb1.size)
  exact Gr.wp_append 22 s t ho hs hy hrun (hK' _ _ (hK v' w' e2 ⟨e3.os.trans hb1.os, e3.tape.trans hb1.tape, e3.output.trans hb1.output, Nat.le_trans hb1.size e3.size, fun g hg => (e3.block g (by have := hb1.size; omega) (fun e => by have := (h.lt e.symm).2; omega)).trans (hb1.block g (by omega))⟩))
def RngPost (w : World) (N : Nat) (f : Nat → Int) (q : Int) (e : Ending) (w' : World) : Prop := ∃ v L, e = .returned v ∧ OwnR w' w.heap.size v L ∧ RngOk f q N L ∧ Below w.heap.size w w'
set_option maxHeartbeats 6400000 in
theorem ranges_rf {w : World} {O : Nat → Prop} {b N : Nat} {f : Nat → Int} {k : Int} (h : RefM w O b N f k) (hN : N ≤ 40000) (q : Int) :
    Calls Try.prog 34 #[.pointer (some ⟨b, 0, none⟩), .int .i64 q] w fun e w' => RngPost w N f q e w' := by
  have HRM := Lib.hid h
  have ST : Hid (OwnR w w.heap.size (.slice none 0 0) []) := Lib.hid (Gr.OwnG.nil _ _)
  have HR0 : Hid (RngOk f q 0 []) := Lib.hid (RngOk.start f q)
  have L0 : Hid (Below w.heap.size w w) := Lib.hid (Below.refl _ _)
  clear h
  go_enter Try.func34, Try.ntmps34
  go_wp2_with fail
  go_loopw [5, 6] (fun v y wr => ∃ (i : Nat) (L : List Rg), i ≤ N ∧ y = .int .i64 (i : Int) ∧ Hid (OwnR wr w.heap.size v L) ∧ Hid (RngOk f q i L) ∧ Hid (Below w.heap.size w wr)) (fun _ y _ => N - (intOf y).toNat)
  case atStart => exact ⟨0, [], by omega, rfl, ST, HR0, L0⟩
  case round =>
    clear ST HR0 L0
    obtain ⟨i, L, hi, rfl, HO, HR, HL⟩ := hrel
    obtain ⟨g, c, cs, h1, h2, h3, _⟩ := HRM.out.keep HL.out
    have c0 : wr.cell? ⟨b, 0, none⟩ = some (.slice (some ⟨g, 0, none⟩) N c) := h1.cell 0
    have hLb : L.length ≤ 50000 := by
      have := HR.out.ris.len (N := i) (fun c hc => ((HR.out.iff c).1 hc).1)
      omega
    by_cases hlt : i < N
    · have t1 : (i : Int) < (N : Int) := by omega
      have hcell : wr.cell? ⟨g, i, none⟩ = some (.int .i64 (f i)) := (h2.cell i).trans (h3 i hlt)
      obtain ⟨x, hx⟩ : ∃ x, x = f i := ⟨_, rfl⟩
      rw [← hx] at hcell
      have HX := Lib.hid hx
      clear h1 h2 h3 hx
      by_cases hz : x = q
      · subst hz
        rcases List.eq_nil_or_concat L with rfl | ⟨L0, r, hLr⟩
        · obtain ⟨A9, c9, hv9, _, _, _, _, _⟩ := HO.out.shape (fun _ => rfl)
          rw [show ([] : List Rg).length = 0 from rfl] at hv9
          have HR2 := Lib.hid (HR.out.new HX.out.symm (fun q hq => by cases hq))
          have HV9 := Lib.hid hv9
          subst hv9
          clear HR HX
          go_wp2_with (at_builtin; refine wpList_appR (x := i) (y := i + 1) rfl (.tmp 47) (.tmp 52) rfl rfl rfl HO.out (by omega) HL.out.size ?_; intro v2 w2 ho2 hb2; refine unhid ?_)
          refine Lib.hid ?_
          have HO2 := Lib.hid ho2
          have HL2 := Lib.hid (HL.out.trans hb2)
          clear ho2 hb2 HO HL HV9
          go_wp2_with fail
          go_roundw
          case rel => exact ⟨i + 1, _, by omega, by go_num, HO2, HR2, HL2⟩
          case measure => simp [intOf]; omega
        · rw [List.concat_eq_append] at hLr
          subst hLr
          obtain ⟨go, co, hv, e1, e2, e3, e4, e5, e6⟩ := HO.out.some_ (fun _ => rfl) (by simp)
          rw [List.length_append, List.length_singleton] at hv e3
          obtain ⟨n0, hn0⟩ : ∃ n0, n0 = L0.length := ⟨_, rfl⟩
          rw [← hn0] at hv e3
          have hget : (L0 ++ [r])[n0]? = some r := by rw [hn0]; simp
          have q1 : wr.cell? ⟨go, n0 * 2 + 1, none⟩ = some (.int .i64 (r.2 : Int)) := e5 n0 r hget 1 _ rfl
          have hfr : wr.frozen? ⟨go, n0 * 2 + 1, none⟩ = false := e6 _
          have hn0b : n0 ≤ 50000 := by rw [List.length_append] at hLb; omega
          have HV := Lib.hid hv
          have HGO := Lib.hid (⟨hget, hn0, e1⟩ : _ ∧ _ ∧ _)
          subst hv
          obtain ⟨e, he⟩ : ∃ e, e = r.2 := ⟨_, rfl⟩
          rw [← he] at q1
          have HE := Lib.hid he
          have heb : e ≤ 40000 := by
            have := HR.out.ends r (by simp)
            omega
          clear hget e1 e2 e4 e5 e6 hn0 he
          by_cases hei : e = i
          · subst hei
            have HR2 : Hid (RngOk f x (e + 1) (L0 ++ [(r.1, e + 1)])) := Lib.hid (RngOk.grow (a := r.1) (by
              have := HR.out
              rw [show r = (r.1, e) from by rw [HE.out]] at this
              exact this) HX.out.symm)
            have HO2 : Hid (OwnR (wr.setCell ⟨go, n0 * 2 + 1, none⟩ (.int .i64 ((e + 1 : Nat) : Int))) w.heap.size (.slice (some ⟨go, 0, none⟩) (n0 + 1) co) (L0 ++ [(r.1, e + 1)])) := Lib.hid (by
              have := HO.out.setAt (i := n0) (j := 1) (x := r) (y := (r.1, e + 1)) (u := .int .i64 ((e + 1 : Nat) : Int)) (fun _ => rfl) HGO.out.1 (by omega) rfl
              rw [HGO.out.2.1] at this
              rw [List.set_append_right _ _ (Nat.le_refl _), Nat.sub_self, List.set_cons_zero, ← HGO.out.2.1] at this
              exact this)
            have HL2 : Hid (Below w.heap.size w (wr.setCell ⟨go, n0 * 2 + 1, none⟩ (.int .i64 ((e + 1 : Nat) : Int)))) := Lib.hid (HL.out.setCell (p := ⟨go, n0 * 2 + 1, none⟩) HGO.out.2.2 _)
            have ee : ((e + 1 : Nat) : Int) = (e : Int) + 1 := by omega
            rw [ee] at HO2 HL2
            clear HR HX HO HL HE HGO ee
            go_wp2_with fail
            go_roundw
            case rel => exact ⟨e + 1, _, by omega, by go_num, HO2, HR2, HL2⟩
            case measure => simp [intOf]; omega
          · have t2 : ((e : Int) == (i : Int)) = false := by simp; omega
            have HR2 := Lib.hid (HR.out.new HX.out.symm (HR.out.last (by rw [← HE.out]; exact hei)))
            have hlL : (L0 ++ [r]).length ≤ 1000000 := by omega
            clear HR HX hei
            go_wp2_with (at_builtin; refine wpList_appR (x := i) (y := i + 1) rfl (.tmp 47) (.tmp 52) rfl rfl rfl HO.out hlL HL.out.size ?_; intro v2 w2 ho2 hb2; refine unhid ?_)
            refine Lib.hid ?_
            have HO2 := Lib.hid ho2
            have HL2 := Lib.hid (HL.out.trans hb2)
            clear ho2 hb2 HO HL HE HGO HV
            go_wp2_with fail
            go_roundw
            case rel => exact ⟨i + 1, _, by omega, by go_num, HO2, HR2, HL2⟩
            case measure => simp [intOf]; omega
      · have hz1 : (x == q) = false := by simp [hz]
        have hz2 : (x != q) = true := by simp [hz]
        have HR2 := Lib.hid (HR.out.skip (fun e => hz (HX.out.trans e)))
        clear HR HX hz
        go_wp2_with fail
        go_roundw
        case rel => exact ⟨i + 1, L, by omega, by go_num, HO, HR2, HL⟩
        case measure => simp [intOf]; omega
    · obtain rfl : N = i := by omega
      have t1 : ¬ ((N : Int) < (N : Int)) := by omega
      clear hlt h1 h2 h3
      go_wp2_with fail
      go_ret
      exact ⟨_, L, rfl, HO.out, HR.out, HL.out⟩
end Rf
end Go.Proofs.Ytpbojhjbjnoihaa
