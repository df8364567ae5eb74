/-
  Rows of bytes as texts: conversions and comparisons. No conditions beyond those that each theorem types.
-/
import Derived.Test.YtlbmeaioiiflkaaLawBytes
import Derived.Test.YtlbmeaioiiflkaaDrawMore
import Derived.Laws.StructEq
namespace Go.Proofs.Ytlbmeaioiiflkaa
open Go Go.RowKit
set_option linter.unusedVariables false

def strB (n : Nat) (X : Nat → Nat) : ByteArray := strOfNums ((List.range n).map fun j => ((X j : Nat) : Int))
theorem strB_congr {n : Nat} {X Y : Nat → Nat} (h : ∀ j, j < n → X j = Y j) : strB n X = strB n Y := by
  unfold strB
  congr 1
  apply List.map_congr_left
  intro j hj
  rw [h j (by simpa using hj)]
theorem strB_list (n : Nat) (X : Nat → Nat) : (strB n X).toList = (List.range n).map fun j => UInt8.ofNat (X j) := by
  rw [ByteArray.toList_eq]
  show ((List.map (fun j => ((X j : Nat) : Int)) (List.range n)).map fun n => UInt8.ofNat n.toNat) = _
  rw [List.map_map]
  rfl
theorem strB_inj {n m : Nat} {X Y : Nat → Nat} (hx : ∀ j, j < n → X j < 256) (hy : ∀ j, j < m → Y j < 256) (h : (strB n X).toList = (strB m Y).toList) : n = m ∧ ∀ j, j < n → X j = Y j := by
  rw [strB_list, strB_list] at h
  have hn : n = m := by have := congrArg List.length h; simpa using this
  subst hn
  refine ⟨rfl, fun j hj => ?_⟩
  have h1 := congrArg (fun l => l[j]?) h
  simp [hj] at h1
  have h2 := congrArg UInt8.toNat h1
  simp [UInt8.toNat_ofNat'] at h2
  have := hx j hj
  have := hy j hj
  omega
/-- 'string(b)' -/
theorem conv_bytes {w : World} {g o n c : Nat} {X : Nat → Nat} {t : TypeId} {cs : Array Value} (h : Blk w g t cs) (hX : ∀ j, j < n → cs[o + j]? = some (.int .u8 ((X j : Nat) : Int))) :
    (convert 43 9 (.slice (some ⟨g, o, none⟩) n c)).run Try.prog w = .ok (.string (strB n X)) w :=
  run_convert_bytes_arg w 43 5 Try.underlying43 Try.underlying5 g o n c _ (by simp) (fun i hi => by
    rw [h.cell, hX i hi]
    simp [List.getD_eq_getElem?_getD, hi]) 9 Try.underlying9
theorem eq_str (w : World) (a b : ByteArray) : (binOp .eql 9 (.string a) (.string b)).run Try.prog w = .ok (.bool (a.toList == b.toList)) w := by
  simp [binOp, Op.stringOp, bne]
theorem ne_str (w : World) (a b : ByteArray) : (binOp .neq 9 (.string a) (.string b)).run Try.prog w = .ok (.bool (!(a.toList == b.toList))) w := by
  simp [binOp, Op.stringOp, bne]
/-- a row of bytes that a call has answered -/
def Row8 (w : World) (v : Value) (n : Nat) (X : Nat → Nat) : Prop := ∃ g c cs, v = .slice (some ⟨g, 0, none⟩) n c ∧ Blk w g 5 cs ∧ ∀ j, j < n → cs[0 + j]? = some (.int .u8 ((X j : Nat) : Int))
theorem Row8.of_own {w : World} {B n : Nat} {v : Value} {X : Nat → Nat} (h : w.ownsRow B 5 1 v n (rowL n X)) (hn : 0 < n) : Row8 w v n X := by
  rcases h.2 with ⟨_, e⟩ | ⟨g, cap, cur, e, _, hb, _, _, hs, ht⟩
  · omega
  · refine ⟨g, cap, cur, e, hb, fun j hj => ?_⟩
    have h1 := rowL_get X hj
    rw [← ht, List.getElem?_take_of_lt (by omega), Array.getElem?_toList] at h1
    rw [Nat.zero_add]
    exact h1
theorem Row8.of_blk {w : World} {g n c : Nat} {X : Nat → Nat} (h : Blk w g 5 (rowArr n X)) : Row8 w (.slice (some ⟨g, 0, none⟩) n c) n X :=
  ⟨g, c, _, rfl, h, fun j hj => by rw [Nat.zero_add]; exact rowArr_get hj⟩
theorem Row8.conv {w : World} {v : Value} {n : Nat} {X : Nat → Nat} (h : Row8 w v n X) : (convert 43 9 v).run Try.prog w = .ok (.string (strB n X)) w := by
  obtain ⟨g, c, cs, rfl, hb, hx⟩ := h
  exact conv_bytes hb hx
theorem Row8.keep {B : Nat} {w w' : World} {v : Value} {n : Nat} {X : Nat → Nat} (h : Row8 w v n X) (hk : Keep B w w') : Row8 w' v n X := by
  obtain ⟨g, c, cs, rfl, hb, hx⟩ := h
  exact ⟨g, c, cs, rfl, hk.block hb rfl, hx⟩
theorem Row8.new_ {w w' : World} {v : Value} {n : Nat} {X : Nat → Nat} (h : Row8 w v n X) (hk : Below w.heap.size w w') : Row8 w' v n X := by
  obtain ⟨g, c, cs, rfl, hb, hx⟩ := h
  exact ⟨g, c, cs, rfl, hb.new_ hk, hx⟩
theorem Row8.drew {w : World} {v : Value} {n : Nat} {X : Nat → Nat} (h : Row8 w v n X) : Row8 w.drew v n X := h
end Go.Proofs.Ytlbmeaioiiflkaa
namespace Go.Proofs.Ytlbmeaioiiflkaa
open Go Go.RowKit
set_option linter.unusedVariables false

/-- the power is on, and stays -/
def RS.calm (s : RS) : Prop := s.off = false ∧ s.armed = false
theorem RS.calm.pow {s : RS} (h : s.calm) : s.pow = true := by unfold RS.pow; rw [h.1, h.2]; rfl
theorem RS.calm.spent {s : RS} (h : s.calm) : s.spent = s := by unfold RS.spent; rw [h.1, h.2]; rfl
theorem RS.calm.wrote {s : RS} (h : s.calm) (d a : Nat) (X : Nat → Nat) : (s.wrote d a X).calm := h
theorem RS.calm.laid {s : RS} (h : s.calm) (P : Nat → Bool) : (s.laid P).calm := h
theorem RS.calm.flushed {s : RS} (h : s.calm) : s.flushed.calm := h
theorem RS.crashed_calm (s : RS) (P : Nat → Bool) : (s.crashed P).calm := ⟨rfl, rfl⟩
section
variable {B : Nat} {w w' : World} {r : Nat} {s : RS}
theorem write_calm (w : World) (r : Nat) (s : RS) (D A : Int) (d a : Nat) (v : Value) (X : Nat → Nat) (h : RackAt B w r s) (hc : s.calm) (hD : D = (d : Int)) (hA : A = (a : Int)) (hd : d < s.nd) (ha : a < s.ns) (hg : s.gone d = false) (hv : Row8 w v 128 X) (hX : ∀ j, j < 128 → X j < 256) (hcost : s.cost + 1 ≤ 1000000) :
    Calls Try.prog 17 #[.pointer (some ⟨r, 0, none⟩), .int .i64 D, .int .i64 A, v] w fun e w' => e = .returned (.int .i64 0) ∧ RackAt B w' r (s.wrote d a X) ∧ Keep B w w' := by
  obtain ⟨g, c, cs, rfl, hb, hx⟩ := hv
  subst hD hA
  exact write_go w r s (s.wrote d a X) 0 d a g 0 c X _ cs h hd ha hg hb rfl (fun j hj => ⟨hx j hj, hX j hj⟩) hcost (by rw [hc.pow]; rfl) (by rw [hc.pow, hc.spent]; rfl)
theorem flush_calm (w : World) (r : Nat) (s : RS) (h : RackAt B w r s) (hc : s.calm) :
    Calls Try.prog 6 #[.pointer (some ⟨r, 0, none⟩)] w fun e w' => e = .returned (.int .i64 0) ∧ RackAt B w' r s.flushed ∧ Keep B w w' :=
  flush_any w r s s.flushed 0 h (by rw [hc.pow]; rfl) (by rw [hc.pow, hc.spent]; rfl)
theorem RackAt.ok (h : RackAt B w r s) : s.ok := h.1
theorem RS.holds_lt {s : RS} (h : s.ok) (d a j : Nat) (hj : j < 128) : s.holds d a j < 256 := by
  unfold RS.holds
  cases hi : newIn s.W d a s.nw with
  | some i => exact (h.wp i (newIn_lt hi).1).2.2 j hj
  | none => exact h.lp d a j hj
theorem read_calm (w : World) (r : Nat) (s : RS) (D A : Int) (d a : Nat) (h : RackAt B w r s) (hc : s.calm) (hD : D = (d : Int)) (hA : A = (a : Int)) (hd : d < s.nd) (ha : a < s.ns) (hg : s.gone d = false) :
    Calls Try.prog 19 #[.pointer (some ⟨r, 0, none⟩), .int .i64 D, .int .i64 A] w fun e w' => ∃ v, e = .returned (.tuple #[v, .int .i64 0]) ∧ Row8 w' v 128 (s.holds d a) ∧ RackAt B w' r s ∧ Keep B w w' := by
  subst hD hA
  exact (read_ok w r s d a h hd ha hg hc.1).mono fun e w' ⟨⟨v, h1, h2⟩, h3, h4⟩ => ⟨v, h1, Row8.of_own h2 (by omega), h3, h4⟩
theorem bytes_calm (f : Int) (w : World) (hf : -9223372036854775808 ≤ f ∧ f ≤ 9223372036854775807) :
    Calls Try.prog 18 #[.int .i64 f, .int .i64 0] w fun e w' => ∃ v, e = .returned v ∧ Row8 w' v 128 (bv 128 f) ∧ Below w.heap.size w w' :=
  (bytes_any f 0 128 w hf (by omega) (by omega)).mono fun e w' ⟨h1, h2, h3⟩ => ⟨_, h1, Row8.of_blk h2, h3⟩
end
end Go.Proofs.Ytlbmeaioiiflkaa
namespace Go.Proofs.Ytlbmeaioiiflkaa
open Go Go.RowKit
set_option linter.unusedVariables false

theorem newIn_wrote (s : RS) (d a : Nat) (X : Nat → Nat) (d' a' : Nat) : ∀ k, k ≤ s.nw → newIn (s.wrote d a X).W d' a' k = newIn s.W d' a' k := fun k hk =>
  newIn_congr fun i hi => by
    have : (s.wrote d a X).W i = s.W i := if_neg (by omega)
    rw [this]
    exact ⟨rfl, rfl⟩
theorem newIn_succ (W : Nat → Wt) (d a k : Nat) : newIn W d a (k + 1) = if (W k).d = d ∧ (W k).a = a then some k else newIn W d a k := rfl
theorem holds_wrote (s : RS) (d a : Nat) (X : Nat → Nat) (d' a' : Nat) : (s.wrote d a X).holds d' a' = if d' = d ∧ a' = a then X else s.holds d' a' := by
  have e : (s.wrote d a X).W s.nw = ⟨d, a, X⟩ := if_pos rfl
  unfold RS.holds
  show (match newIn (s.wrote d a X).W d' a' (s.nw + 1) with | some i => ((s.wrote d a X).W i).x | none => s.last d' a') = _
  rw [newIn_succ, e]
  by_cases h : d = d' ∧ a = a'
  · obtain ⟨rfl, rfl⟩ := h
    rw [if_pos ⟨rfl, rfl⟩, if_pos ⟨rfl, rfl⟩]
    show ((s.wrote d a X).W s.nw).x = X
    rw [e]
  · rw [if_neg h, if_neg (fun x => h ⟨x.1.symm, x.2.symm⟩), newIn_wrote s d a X d' a' s.nw (Nat.le_refl _)]
    cases hi : newIn s.W d' a' s.nw with
    | none => rfl
    | some i =>
      have hlt := (newIn_lt hi).1
      have : (s.wrote d a X).W i = s.W i := if_neg (by omega)
      simp only [this]
theorem lay_all (s : RS) (d a : Nat) : ∀ k, s.lay (fun _ => true) k d a = match newIn s.W d a k with | some i => (s.W i).x | none => s.last d a
  | 0 => rfl
  | k + 1 => by
    rw [newIn_succ]
    unfold RS.lay
    by_cases h : (s.W k).d = d ∧ (s.W k).a = a
    · simp only [h.1, h.2, and_self, if_true]
    · rw [if_neg (fun x => h x.2), if_neg h]
      exact lay_all s d a k
theorem holds_flushed (s : RS) (d a : Nat) : s.flushed.holds d a = s.holds d a := by
  show s.lay (fun _ => true) s.nw d a = _
  rw [lay_all]
  rfl
theorem holds_crashed (s : RS) (P : Nat → Bool) (d a : Nat) : (s.crashed P).holds d a = s.lay P s.nw d a := rfl
theorem holds_new (nd ns d a : Nat) : (RS.new nd ns).holds d a = zeros := rfl
end Go.Proofs.Ytlbmeaioiiflkaa
