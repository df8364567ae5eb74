/-
  Two chains of two operations each that come up in any order (a region that draws its order): one walk for the six orders. No conditions beyond those that each theorem types.
-/
import Derived.Test.YtkbndlnmbbbohaaGreatDoorSpcPartM
import Derived.Test.YtkbndlnmbbbohaaGreatDoorOwnSM
import Derived.IntWalk
import Derived.Deep.Cut
namespace Go.Proofs.YtkbndlnmbbbohaaGreatDoor
open Go Go.RowKit
set_option maxRecDepth 100000
set_option linter.unusedVariables false

section
variable {P : Program} {md : Region.Mode} {ops : Array Oper} {Q : Exit → Act → World → Prop} {S : World → Prop} {z : Nat}
/-- one of two may come up -/
theorem AnyZ.two {i j n : Nat} {listed : Array Bool} {a : Act} {w : World} (hr : Region.ready md ops listed = [i, j])
    (h1 : wpOp P ops Q i (fun a' w' => (i ≠ z → S w') ∧ AnyZ P md ops Q S z n (listed.setIfInBounds i true) a' w') a w)
    (h2 : wpOp P ops Q j (fun a' w' => (j ≠ z → S w') ∧ AnyZ P md ops Q S z n (listed.setIfInBounds j true) a' w') a w) : AnyZ P md ops Q S z (n + 1) listed a w :=
  ⟨fun h0 => (by rw [hr] at h0; cases h0), fun k hk => by
    rw [hr] at hk
    simp at hk
    rcases hk with rfl | rfl
    · exact h1
    · exact h2⟩
def putO (d : Tmp) (a : Act) : Option Value → Act
  | none => a
  | some v => a.put (some d) v
def fr (d1 d2 e1 e2 : Tmp) (a : Act) (x1 x2 y1 y2 : Option Value) : Act := putO e2 (putO e1 (putO d2 (putO d1 a x1) x2) y1) y2
end
end Go.Proofs.YtkbndlnmbbbohaaGreatDoor
namespace Go.Proofs.YtkbndlnmbbbohaaGreatDoor
open Go Go.RowKit
set_option maxRecDepth 100000
set_option linter.unusedVariables false

theorem OwnS.ne_ {w : World} {base n g : Nat} {v : Value} {X : Nat → Hd} {cs : Array Value} (h : OwnS w base v n X) (hb : Blk w g 5 cs) : some g ≠ v.ownBlock := fun e => by
  rcases h with ⟨rfl, _⟩ | ⟨g', cap, cur, fr, rfl, _, hg, _⟩
  · cases e
  · simp [Value.ownBlock] at e
    subst e
    unfold Blk at hb
    rw [hb] at hg
    injection hg with hg
    injection hg with _ hg _
    exact absurd hg (by decide)

/-- where the region stands, whatever came first -/
structure Phi (w3 : World) (Z n k : Nat) (HD : Nat → Hd) (x1 x2 y1 y2 : Option Value) (W : World) : Prop where
  below : Below Z w3 W
  room : Z ≤ W.heap.size
  e30 : ∀ v, x1 = some v → ∃ g0, v = .slice (some ⟨g0, 0, none⟩) 0 0
  e32 : ∀ v, x2 = some v → OwnS W Z v k HD
  e37 : ∀ v, y1 = some v → ∃ g, v = .slice (some ⟨g, 0, none⟩) n n ∧ Z ≤ g ∧ Blk W g 5 (rowArr n fun _ => 0)
  e38 : ∀ v, y2 = some v → ∃ g, y1 = some (.slice (some ⟨g, 0, none⟩) n n) ∧ OwnS W Z v 1 (fun _ => (some ⟨g, 0, none⟩, n, n))
theorem Phi.mono {w3 W W' : World} {Z n k : Nat} {HD : Nat → Hd} {x1 x2 y1 y2 : Option Value} (h : Phi w3 Z n k HD x1 x2 y1 y2 W) (hb : Below W.heap.size W W') : Phi w3 Z n k HD x1 x2 y1 y2 W' := by
  refine ⟨h.below.trans (hb.mono h.room), Nat.le_trans h.room hb.size, h.e30, fun v e => (h.e32 v e).below hb (Nat.le_refl _), fun v e => ?_, fun v e => ?_⟩
  · obtain ⟨g, h1, h2, h3⟩ := h.e37 v e
    exact ⟨g, h1, h2, h3.below hb h3.lt⟩
  · obtain ⟨g, h1, h2⟩ := h.e38 v e
    exact ⟨g, h1, h2.below hb (Nat.le_refl _)⟩

theorem RdB.mono {w : World} {B B' n : Nat} {A : Option Addr} {x : Nat → Nat} (h : RdB w B A n x) (hB : B ≤ B') : RdB w B' A n x := fun j hj => by
  obtain ⟨b, o, h1, h2, h3, h4⟩ := h j hj
  exact ⟨b, o, h1, by omega, h3, h4⟩
end Go.Proofs.YtkbndlnmbbbohaaGreatDoor
namespace Go.Proofs.YtkbndlnmbbbohaaGreatDoor
open Go Go.RowKit
set_option maxRecDepth 100000
set_option linter.unusedVariables false

theorem wpList_append_hd {w : World} {ops : Array Oper} {rest : List Oper} {o : Oper} {a : Act} {Q : Exit → Act → World → Prop} (hgd : o.guard = none) (s x : Operand)
    (ho : o.op = .call { callee := .builtin .append, args := #[s, x], argTypes := #[139, 139] }) {base n B m c : Nat} {v : Value} {A : Option Addr} {X Y : Nat → Hd} (hs : a.eval s = v) (hx : a.eval x = .slice A m c)
    (hown : OwnS w base v n X) (hy : RdH w B A m Y) (h0 : A = none → c = 0) (hmc : m ≤ c) (hl : n + m ≤ 100000) (hb : base ≤ w.heap.size)
    (h : ∀ v' w', OwnS w' base v' (n + m) (catS n X Y) → w.grownBy w' v.ownBlock → (v'.ownBlock = v.ownBlock ∨ v'.ownBlock = some w.heap.size) → wpList Tryz.prog ops Q rest (a.put o.dst v') w') : wpList Tryz.prog ops Q (o :: rest) a w := by
  refine wpList_plain hgd fun K hK => ?_
  obtain ⟨v', w', hrun, h1, h2, h3⟩ := run_append_hd o.type hown hy h0 hmc hl hb
  unfold Oper.wp execOp
  simp only [ho, resolve, invoke, builtin, Sem.run_bind, Sem.run_pure, Result.andThen_ok, List.map_toArray, List.map_cons, List.map_nil, hs, hx, hrun]
  exact hK _ _ (h v' w' h1 h2 h3)
theorem OwnS.neG {w : World} {base n m g : Nat} {v : Value} {X : Nat → Hd} {x : Nat → Nat} (h : OwnS w base v n X) (hb : RowG w g m x) : some g ≠ v.ownBlock := fun e => by
  rcases h with ⟨rfl, _⟩ | ⟨g', cap, cur, fr, rfl, _, hg, _⟩
  · cases e
  · simp [Value.ownBlock] at e
    subst e
    obtain ⟨cs, fr2, hb, _⟩ := hb
    rw [hb] at hg
    injection hg with hg
    injection hg with _ hg _
    exact absurd hg (by decide)
/-- i heads, each of a row of n bytes that stands alone -/
structure Cols (w : World) (base : Nat) (v : Value) (i n : Nat) (H : Nat → Hd) (R : Nat → Nat) (x : Nat → Nat → Nat) : Prop where
  own : OwnS w base v i H
  hd : ∀ j, j < i → ∃ c, H j = (some ⟨R j, 0, none⟩, n, c) ∧ n ≤ c ∧ c ≤ maxLen
  row : ∀ j, j < i → base ≤ R j ∧ RowG w (R j) n (x j)
  apart : ∀ j k, j < k → k < i → R j ≠ R k
section
variable {w w' : World} {base i n : Nat} {v : Value} {H : Nat → Hd} {R : Nat → Nat} {x : Nat → Nat → Nat}
theorem Cols.below (h : Cols w base v i n H R x) {B : Nat} (hb : Below B w w') (hB : w.heap.size ≤ B) : Cols w' base v i n H R x :=
  ⟨h.own.below hb hB, h.hd, fun j hj => ⟨(h.row j hj).1, (h.row j hj).2.below hb (Nat.lt_of_lt_of_le (h.row j hj).2.lt hB)⟩, h.apart⟩
/-- one row more -/
theorem Cols.push {w2 : World} {v' : Value} {g c : Nat} {X : Nat → Nat} (h : Cols w base v i n H R x) (ho : OwnS w2 base v' (i + 1) (catS i H (fun _ => (some ⟨g, 0, none⟩, n, c)))) (hg : w.grownBy w2 v.ownBlock) (hr : RowG w g n X) (hb : base ≤ g) (hc : n ≤ c ∧ c ≤ maxLen) (hne : ∀ j, j < i → R j ≠ g) (hx : ∀ v, v < n → X v = x i v) :
    Cols w2 base v' (i + 1) n (catS i H (fun _ => (some ⟨g, 0, none⟩, n, c))) (fun j => if j = i then g else R j) x := by
  have q1 : ∀ j, j < i → (if j = i then g else R j) = R j := fun j hj => if_neg (by omega)
  have q2 : (if i = i then g else R i) = g := if_pos rfl
  refine ⟨ho, fun j hj => ?_, fun j hj => ?_, fun j k hjk hk => ?_⟩
  · unfold catS
    by_cases e : j < i
    · have e1 := q1 j e
      rw [if_pos e, e1]
      exact h.hd j e
    · obtain rfl : j = i := by omega
      rw [if_neg e, q2]
      exact ⟨c, rfl, hc⟩
  · by_cases e : j < i
    · obtain ⟨h1, h2⟩ := h.row j e
      have e1 := q1 j e
      rw [e1]
      exact ⟨h1, h2.heap (hg.block _ h2.lt (h.own.neG h2))⟩
    · obtain rfl : j = i := by omega
      rw [q2]
      exact ⟨hb, (hr.heap (hg.block _ hr.lt (h.own.neG hr))).congr hx⟩
  · by_cases e : k < i
    · have e1 := q1 j (by omega)
      have e2 := q1 k e
      rw [e1, e2]
      exact h.apart j k hjk e
    · obtain rfl : k = i := by omega
      have e1 := q1 j (by omega)
      rw [e1, q2]
      exact hne j (by omega)
theorem Cols.len (h : Cols w base v i n H R x) {j : Nat} (hj : j < i) : (H j).2.1 = n := by
  obtain ⟨c, e, _⟩ := h.hd j hj
  rw [e]
theorem Cols.alike (h : Cols w base v i n H R x) (hi : 0 < i) (h1 : 1 ≤ n) (h2 : n ≤ 4096) : Alike i (fun j => (H j).2.1) :=
  ⟨by show 1 ≤ (H 0).2.1; rw [h.len hi]; exact h1, by show (H 0).2.1 ≤ 4096; rw [h.len hi]; exact h2, fun j hj => by
    show (H j).2.1 = (H 0).2.1
    rw [h.len hj, h.len hi]⟩
end
end Go.Proofs.YtkbndlnmbbbohaaGreatDoor
namespace Go.Proofs.YtkbndlnmbbbohaaGreatDoor
open Go Go.RowKit
set_option maxRecDepth 100000
set_option linter.unusedVariables false

end Go.Proofs.YtkbndlnmbbbohaaGreatDoor
namespace Go.Proofs.YtkbndlnmbbbohaaGreatDoor
open Go Go.RowKit
set_option maxRecDepth 100000
set_option linter.unusedVariables false

section
variable {w w' : World} {base i n : Nat} {v : Value} {H : Nat → Hd} {R : Nat → Nat} {x : Nat → Nat → Nat}
theorem Cols.lower (h : Cols w base v i n H R x) {b : Nat} (hb : b ≤ base) : Cols w b v i n H R x :=
  ⟨h.own.base hb, h.hd, fun j hj => ⟨Nat.le_trans hb (h.row j hj).1, (h.row j hj).2⟩, h.apart⟩
theorem Cols.drew (h : Cols w base v i n H R x) : Cols w.drew base v i n H R x := ⟨h.own, h.hd, h.row, h.apart⟩
def updR (x : Nat → Nat → Nat) (j k u : Nat) (j' : Nat) : Nat → Nat := if j' = j then upd (x j) k u else x j'
/-- one byte of one row is stored -/
theorem Cols.set (h : Cols w base v i n H R x) {j k u : Nat} (hj : j < i) (hk : k < n) : Cols (w.setCell ⟨R j, k, none⟩ (.int .u8 ((u : Nat) : Int))) base v i n H R (updR x j k u) := by
  obtain ⟨h1, h2⟩ := h.row j hj
  refine ⟨h.own.keep fun g hg => Below.heap_setCell w _ _ g (fun e => h.own.neG h2 (by rw [hg, e])), h.hd, fun j' hj' => ?_, h.apart⟩
  obtain ⟨h3, h4⟩ := h.row j' hj'
  refine ⟨h3, ?_⟩
  unfold updR
  by_cases e : j' = j
  · rw [if_pos e, e]; exact h2.set hk
  · rw [if_neg e]
    refine h4.far (p := ⟨R j, k, none⟩) ?_ _
    show R j' ≠ R j
    by_cases e2 : j' < j
    · exact h.apart j' j e2 hj
    · exact (h.apart j j' (by omega) hj').symm
end
set_option maxHeartbeats 800000 in
theorem make_cols (k cd B : Nat) (A : Option Addr) (ra : Nat → Option Addr) (rl rc : Nat → Nat) (x : Nat → Nat → Nat) (w : World) (hr : RdR w B A k ra rl rc x) (hB : B ≤ w.heap.size) (hk0 : 0 < k) (hk : k ≤ 13) (ha : Alike k rl) :
    Calls Tryz.prog 100 #[.slice A k cd] w fun e w' => ∃ v R, e = .returned (.tuple #[v, .int .i64 0]) ∧ Cols w' w.heap.size v 3 (rl 0) (fun i => (some ⟨R i, 0, none⟩, rl 0, rl 0)) R (fun i v => M.par k i x v) ∧ Below w.heap.size w w' := by
  have HA := Lib.hid ha
  have HR := Lib.hid hr
  have hz := build_field
  have t1 : ((k : Int) < 1) = False := by simp; omega
  have t2 : ((13 : Int) < (k : Int)) = False := by simp; omega
  clear hr ha
  go_enter Tryz.func100, Tryz.ntmps100
  go_wp2_with fail
  refine (alike_yes k cd B A ra rl rc x _ HR.out hk0 (by omega) HA.out).mono ?_
  rintro e w1 ⟨rfl, rfl⟩
  go_wp2_with fail
  have F1 : Fld (w.alloc (.cells (fcells 0 0 0) 236)) w.heap.size := .inl (Blk.new _ _ _)
  have B1 : Below w.heap.size w (w.alloc (.cells (fcells 0 0 0) 236)) := (Below.refl _ _).alloc (Nat.le_refl _) _
  refine (sums_any w.heap.size (rl 0) k cd B A ra rl rc x _ F1 (HR.out.below B1 hB) HA.out.2.2 hk0 (by omega) hB HA.out.2.1 (Nat.le_trans hB B1.size)).mono ?_
  rintro e w3 ⟨rfl, R, H3⟩
  have HS := Lib.hid H3
  have HB := Lib.hid (B1.trans (H3.only.below (Nat.le_refl _) B1.size))
  clear H3 F1 B1
  go_wp2_with fail
  go_ret2
  refine ⟨_, R, rfl, ?_, HB.out⟩
  have s1 : (w.alloc (.cells (fcells 0 0 0) 236)).heap.size = w.heap.size + 1 := by simp
  have hh := HS.out.head
  rw [s1] at hh
  refine ⟨.inr ⟨w.heap.size + 1, 3, _, (0, 0), rfl, by omega, hh, .inl (Nat.le_refl _), Nat.le_refl _, by simp [maxLen], by simp [hdP], fun j hj => ?_⟩, fun j hj => ⟨rl 0, rfl, Nat.le_refl _, ?_⟩, fun j hj => ?_, HS.out.apart⟩
  · rw [hdP_get hj, if_pos hj]; rfl
  · have := HA.out.2.1; unfold maxLen; omega
  · obtain ⟨h1, h2⟩ := HS.out.row j hj
    rw [s1] at h1
    exact ⟨by omega, h2⟩
end Go.Proofs.YtkbndlnmbbbohaaGreatDoor
namespace Go.Proofs.YtkbndlnmbbbohaaGreatDoor
open Go Go.RowKit
set_option maxRecDepth 100000
set_option linter.unusedVariables false

/-- n numbers that lie below block B -/
def RdZ (w : World) (B : Nat) (A : Option Addr) (n : Nat) (x : Nat → Int) : Prop :=
  ∀ i, i < n → ∃ b o, A = some ⟨b, o, none⟩ ∧ b < B ∧ w.cell? ⟨b, o + i, none⟩ = some (.int .i64 (x i))
theorem RdZ.below {w w' : World} {B B' n : Nat} {A : Option Addr} {x : Nat → Int} (h : RdZ w B A n x) (hb : Below B' w w') (hB : B ≤ B') : RdZ w' B A n x := by
  intro i hi
  obtain ⟨b, o, h1, h2, h3⟩ := h i hi
  exact ⟨b, o, h1, h2, (hb.cell (p := ⟨b, o + i, none⟩) (by show b < B'; omega)).trans h3⟩
theorem RdZ.drewN {w : World} {B n : Nat} {A : Option Addr} {x : Nat → Int} (h : RdZ w B A n x) (m : Nat) : RdZ (w.drewN m) B A n x := h
/-- the one ahead of number i -/
def prv (b : Nat → Int) (i : Nat) : Int := if i = 0 then -1 else b (i - 1)
theorem prv_succ (b : Nat → Int) (i : Nat) : prv b (i + 1) = b i := by unfold prv; rw [if_neg (by omega), Nat.add_sub_cancel]
/-- Are they numbers from 0 to n - 1, each above the one ahead of it? -/
def Rise (m : Nat) (b : Nat → Int) (n : Int) : Prop := ∀ i, i < m → prv b i < b i ∧ b i < n
theorem Rise.ge {m : Nat} {b : Nat → Int} {n : Int} (h : Rise m b n) : ∀ i, i < m → (i : Int) ≤ b i := by
  intro i
  induction i with
  | zero =>
    intro hi
    have := (h 0 hi).1
    unfold prv at this
    rw [if_pos rfl] at this
    omega
  | succ i ih =>
    intro hi
    have h1 := (h (i + 1) hi).1
    rw [prv_succ] at h1
    have := ih (by omega)
    omega
theorem Rise.lt {m : Nat} {b : Nat → Int} {n : Int} (h : Rise m b n) {i j : Nat} (hij : i < j) (hj : j < m) : b i < b j := by
  induction j with
  | zero => omega
  | succ j ih =>
    have h1 := (h (j + 1) hj).1
    rw [prv_succ] at h1
    by_cases e : i = j
    · rw [e]; exact h1
    · have := ih (by omega) (by omega)
      omega

/-- f is the first column that isn't bad -/
def First (m : Nat) (b : Nat → Int) (f : Nat) : Prop := f ≤ m ∧ (∀ j, j < f → b j = (j : Int)) ∧ (f < m → b f ≠ (f : Int))
/-- the bad ones from number t on, q of them, as round i meets them -/
structure Left (w : World) (B : Nat) (v : Value) (m t q i : Nat) (b : Nat → Int) : Prop where
  sum : m = t + q
  row : ∃ A c, v = .slice A q c ∧ q ≤ c ∧ c ≤ maxLen ∧ RdZ w B A q (fun j => b (t + j))
  lo : ∀ j, j < t → b j < (i : Int)
  hi : ∀ j, t ≤ j → j < m → (i : Int) ≤ b j
section
variable {w : World} {B m t q i : Nat} {v : Value} {b : Nat → Int} {n : Int}
/-- round i's column is not bad -/
theorem Left.keep (h : Left w B v m t q i b) (hn : q = 0 ∨ b t ≠ (i : Int)) (hr : Rise m b n) : Left w B v m t q (i + 1) b :=
  ⟨h.sum, h.row, fun j hj => by have := h.lo j hj; omega, fun j h1 h2 => by
    have hs := h.sum
    rcases hn with hn | hn
    · omega
    · have h3 := h.hi j h1 h2
      have h4 := h.hi t (Nat.le_refl _) (by omega)
      by_cases e : t = j
      · subst e; omega
      · have := hr.lt (show t < j by omega) h2
        omega⟩
theorem Left.next {A : Option Addr} {c : Nat} (h : Left w B v m t (q + 1) i b) (hr : Rise m b n) (hb : b t = (i : Int)) (hc : q ≤ c) (hm : c ≤ maxLen) (hz : RdZ w B A q (fun j => b (t + 1 + j))) : Left w B (.slice A q c) m (t + 1) q (i + 1) b :=
  ⟨by have := h.sum; omega, ⟨A, c, rfl, hc, hm, hz⟩, fun j hj => by
    by_cases e : j < t
    · have := h.lo j e; omega
    · obtain rfl : j = t := by omega
      omega, fun j h1 h2 => by
    have := hr.lt (show t < j by omega) h2
    omega⟩
end

end Go.Proofs.YtkbndlnmbbbohaaGreatDoor
namespace Go.Proofs.YtkbndlnmbbbohaaGreatDoor
open Go Go.RowKit
set_option maxRecDepth 100000
set_option linter.unusedVariables false

/-- Is column i bad? -/
def isB (m : Nat) (b : Nat → Int) (i : Nat) : Bool := (List.range m).any fun j => b j == (i : Int)
theorem isB_true {m i j : Nat} {b : Nat → Int} (hj : j < m) (h : b j = (i : Int)) : isB m b i = true := by
  unfold isB
  rw [List.any_eq_true]
  exact ⟨j, by simpa using hj, by simpa using h⟩
/-- behind i rounds of 'whole' -/
structure WholeAt (w0 w : World) (n k i : Nat) (X : Nat → Nat → Nat) : Prop where
  head : Blk w w0.heap.size 41 (hdP k n i (fun j => w0.heap.size + 1 + j))
  row : ∀ j, j < i → Blk w (w0.heap.size + 1 + j) 5 (rowArr n (X j))
  size : w.heap.size = w0.heap.size + 1 + i
  below : Below w0.heap.size w0 w
theorem WholeAt.cols {w0 w : World} {n k : Nat} {X : Nat → Nat → Nat} (h : WholeAt w0 w n k k X) (hk : k ≤ 16) (hn : n ≤ 4096) :
    Cols w w0.heap.size (.slice (some ⟨w0.heap.size, 0, none⟩) k k) k n (fun j => (some ⟨w0.heap.size + 1 + j, 0, none⟩, n, n)) (fun j => w0.heap.size + 1 + j) X := by
  refine ⟨.inr ⟨w0.heap.size, k, _, (0, 0), rfl, Nat.le_refl _, h.head, .inl (Nat.le_refl _), Nat.le_refl _, by unfold maxLen; omega, by simp [hdP], fun j hj => ?_⟩, fun j hj => ⟨n, rfl, Nat.le_refl _, by unfold maxLen; omega⟩, fun j hj => ⟨by omega, RowG.of_blk (h.row j hj) (Nat.le_refl _)⟩, fun j j' h1 h2 => by omega⟩
  rw [hdP_get hj, if_pos hj]
  rfl
theorem Left.below {w w' : World} {B B' m t q i : Nat} {v : Value} {b : Nat → Int} (h : Left w B v m t q i b) (hb : Below B' w w') (hB : B ≤ B') : Left w' B v m t q i b := by
  obtain ⟨g1, ⟨A', c', g2, g3, g4, g5⟩, g6, g7⟩ := h
  exact ⟨g1, ⟨A', c', g2, g3, g4, g5.below hb hB⟩, g6, g7⟩
theorem rowArr_ext {n : Nat} {X Y : Nat → Nat} (h : ∀ v, v < n → X v = Y v) : rowArr n X = rowArr n Y := rowArr_congr h
theorem WholeAt.next {w0 W w2 : World} {z n k i : Nat} {X : Nat → Nat → Nat} {Y : Nat → Nat} (hz : w0.heap.size = z) (hd : Blk W z 41 (hdP k n (i + 1) (fun j => z + 1 + j))) (he : ∀ j, j < i → Blk W (z + 1 + j) 5 (rowArr n (X j)))
    (hs : W.heap.size = z + 1 + i + 1) (hb0 : Below z w0 W) (hb : Blk w2 (z + 1 + i) 5 (rowArr n Y)) (ho : Only (z + 1 + i) W w2) (hs2 : w2.heap.size = W.heap.size) (hY : ∀ v, v < n → Y v = X i v) : WholeAt w0 w2 n k (i + 1) X := by
  subst hz
  refine ⟨ho.blk hd (by omega), fun j hj => ?_, by omega, hb0.trans (ho.below (by omega) (by omega))⟩
  by_cases e : j = i
  · subst e
    rw [← rowArr_ext hY]
    exact hb
  · exact ho.blk (he j (by omega)) (by omega)
end Go.Proofs.YtkbndlnmbbbohaaGreatDoor
