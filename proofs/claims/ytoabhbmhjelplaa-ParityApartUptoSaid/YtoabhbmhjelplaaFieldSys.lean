/-
  Plain arithmetic of systems: a vector with its factor, what a system makes of it, that there is one solution at most where one is told. Conditions: elements are below 256.
-/
import Derived.Test.YtoabhbmhjelplaaFieldArgsM
import Derived.Test.YtoabhbmhjelplaaFieldSolve
namespace Go.Proofs.Ytoabhbmhjelplaa
open Go.RowKit
set_option maxRecDepth 100000
set_option linter.unusedVariables false

def vec (n : Nat) (v : Nat → Nat) (t j : Nat) : Nat := if j < n then v j else t
theorem vec_small {n t : Nat} {v : Nat → Nat} (hv : ∀ j, j < n → v j < 256) (ht : t < 256) : M.SmallV n (vec n v t) := by
  intro j hj
  unfold vec
  split
  · rename_i h; exact hv j h
  · exact ht
theorem vec_last (n t : Nat) (v : Nat → Nat) : vec n v t n = t := if_neg (by omega)
theorem dot_vec (n i t : Nat) (x : Nat → Nat → Nat) (y v : Nat → Nat) : M.dot (n + 1) (joinM n x y i) (vec n v t) = M.xsum n (fun k => M.gmul (x i k) (v k)) ^^^ M.gmul (y i) t := by
  show M.xsum n _ ^^^ M.gmul (joinM n x y i n) (vec n v t n) = _
  rw [vec_last]
  have e1 : joinM n x y i n = y i := if_neg (by omega)
  rw [e1, M.xsum_congr (fun j hj => ?_)]
  show M.gmul (joinM n x y i j) (vec n v t j) = M.gmul (x i j) (v j)
  unfold joinM vec
  rw [if_pos hj, if_pos hj]
theorem sol_vec (n : Nat) (x : Nat → Nat → Nat) (y v : Nat → Nat) (hy : ∀ i, i < n → y i = M.xsum n (fun k => M.gmul (x i k) (v k))) : M.Sol n (joinM n x y) (vec n v 1) := by
  intro i hi
  rw [dot_vec, M.gmul_one (by rw [hy i hi]; exact M.xsum_lt fun j _ => M.gmul_lt _ _), hy i hi, Nat.xor_self]
/-- a vector whose factor is 0 doesn't ask the right sides -/
theorem sol_right {n : Nat} {x : Nat → Nat → Nat} {y y' : Nat → Nat} {z : Nat → Nat} (hz : z n = 0) (h : M.Sol n (joinM n x y) z) : M.Sol n (joinM n x y') z := by
  intro i hi
  have h1 := h i hi
  show M.xsum n _ ^^^ M.gmul (joinM n x y' i n) (z n) = 0
  have h2 : M.xsum n (fun j => M.gmul (joinM n x y i j) (z j)) ^^^ M.gmul (joinM n x y i n) (z n) = 0 := h1
  rw [hz, M.gmul_zero_right] at h2 ⊢
  rw [M.xsum_congr (g := fun j => M.gmul (joinM n x y i j) (z j)) (fun j hj => ?_)]
  · exact h2
  · unfold joinM
    rw [if_pos hj, if_pos hj]
/-- the solution that is told is the one -/
theorem one_eq {n : Nat} {x : Nat → Nat → Nat} {y v X : Nat → Nat} (hv : ∀ j, j < n → v j < 256) (hX : ∀ i, i < n → X i < 256) (hy : ∀ i, i < n → y i = M.xsum n (fun k => M.gmul (x i k) (v k)))
    (hs : ∀ z, M.SmallV n z → (M.Sol n (joinM n x y) z ↔ ∀ i, i < n → z i = M.gmul (X i) (z n))) : ∀ i, i < n → X i = v i := by
  intro i hi
  have h1 := (hs _ (vec_small hv (by omega))).1 (sol_vec n x y v hy) i hi
  rw [vec_last, M.gmul_one (hX i hi)] at h1
  unfold vec at h1
  rw [if_pos hi] at h1
  exact h1.symm
/-- a system of whose rows a vector that isn't nought makes nought tells no solution, whatever its right sides -/
theorem not_one {n : Nat} {x : Nat → Nat → Nat} {y y' X z : Nat → Nat} (hz : M.SmallV n z) (hn : z n = 0) (hne : ∃ j, j < n ∧ z j ≠ 0) (h : M.Sol n (joinM n x y) z)
    (hs : ∀ z, M.SmallV n z → (M.Sol n (joinM n x y') z ↔ ∀ i, i < n → z i = M.gmul (X i) (z n))) : False := by
  obtain ⟨j, hj, hjne⟩ := hne
  have h1 := (hs z hz).1 (sol_right hn h) j hj
  rw [hn, M.gmul_zero_right] at h1
  exact hjne h1

theorem size_elem (W : World) : (sizeOf (Try.prog.elem 31)).run Try.prog W = .ok 1 W := by kernel_rfl
/-- the first N of a slice -/
theorem slice_head (A : Option Addr) (n c N : Nat) (h1 : N ≤ c) (l : Int) (hl : l = (N : Int)) (W : World) : (Instr.slice 31 (.slice A n c) none (some (.int .i64 l)) none).run Try.prog W = .ok (.slice A N c) W := by
  subst hl
  have h := run_slice_h (P := Try.prog) (w := W) (t := 31) (a := A) (len := n) (cap := c) Try.underlying31 .i64 (N : Int) (by omega) (by omega)
  rw [h, size_elem]
  cases A <;> simp [Result.andThen, sliced, Addr.add]

/-- 'append' of one value of one cell onto a row of the call's own. -/
theorem wpList_append1 {w : World} {ops : Array Oper} {rest : List Oper} {o : Oper} {a : Act} {Q : Exit → Act → World → Prop} (hgd : o.guard = none) (s x : Operand) (t : TypeId)
    (ho : o.op = .call { callee := .builtin .append, args := #[s, x], argTypes := #[t, t] }) (base : Nat) (e : TypeId) (z : Value) (bytes : Nat) (ht : Try.prog.underlying t = some (.slice e))
    (hinfo : (Try.prog.info? e).map (fun i => (i.zero, i.size, i.bytes)) = some (some z, 1, bytes)) (hz1 : z.cells.size = 1) (hby : bytes ≤ 100)
    (v : Value) (n : Nat) (xs : List Value) (hs : a.eval s = v) (hown : w.ownsRow base e 1 v n xs) (ad : Addr) (hx : a.eval x = .slice (some ad) 1 1) (u : Value) (hu : u.oneCell' = true) (hc : w.cell? ad = some u) (hn : n + 1 ≤ 1000000) (hbase : base ≤ w.heap.size)
    (h : ∀ v' w', w'.ownsRow base e 1 v' (n + 1) (xs ++ [u]) → w.grownBy w' v.ownBlock → wpList Try.prog ops Q rest (a.put o.dst v') w') : wpList Try.prog ops Q (o :: rest) a w := by
  obtain ⟨i0, hi0, h0, h1, h2⟩ := info_parts hinfo
  refine wpList_append_own w hgd s x t ho base e i0 z 1 bytes ht hi0 h0 h1 h2 hz1 (by omega) v n xs hs hown ad 1 1 [u] hx rfl ?_ ?_ (by simp only [maxLen]; omega) ?_ hbase (fun v' w' a1 a2 _ => h v' w' a1 a2)
  · intro j y hj
    have hj0 : j = 0 := by
      rcases Nat.eq_zero_or_pos j with e | e
      · exact e
      · rw [List.getElem?_eq_none (by simp; omega)] at hj; cases hj
    subst hj0
    simp at hj
    subst hj
    exact hc
  · intro y hy
    simp at hy
    subst hy
    exact hu
  · have : (n + 1) * bytes ≤ 1000000 * 100 := Nat.mul_le_mul hn hby
    omega
theorem ownBlock_ne {w : World} {base g : Nat} {e t : TypeId} {size n : Nat} {v : Value} {xs : List Value} {cs : Array Value} (h : w.ownsRow base e size v n xs) (hg : Blk w g t cs) (hne : e ≠ t) : v.ownBlock ≠ some g := by
  rcases h.2 with ⟨rfl, _⟩ | ⟨g', cap, cur, rfl, _, hh, _⟩
  · simp [Value.ownBlock]
  · intro he
    have e1 : g' = g := by simpa [Value.ownBlock] using he
    subst e1
    exact Blk.ne_ (t := e) hh hg hne rfl
theorem Fld.own_ne {w : World} {base g : Nat} {e : TypeId} {size n : Nat} {v : Value} {xs : List Value} (hf : Fld w g) (h : w.ownsRow base e size v n xs) (hne : e ≠ 61) : v.ownBlock ≠ some g := by
  rcases hf with hf | hf
  · exact ownBlock_ne h hf hne
  · exact ownBlock_ne h hf hne
theorem Fld.grown {w w' : World} {g : Nat} {row : Option Nat} (h : Fld w g) (hb : w.grownBy w' row) (hg : some g ≠ row) : Fld w' g := by
  rcases h with h | h
  · exact .inl (h.grown hb hg)
  · exact .inr (h.grown hb hg)
theorem own_only {w w' : World} {base g : Nat} {e : TypeId} {size n : Nat} {v : Value} {xs : List Value} (h : w.ownsRow base e size v n xs) (ho : Only g w w') (hne : v.ownBlock ≠ some g) : w'.ownsRow base e size v n xs :=
  h.kept ho (.inr hne)
theorem rdb_of_own {w : World} {base n : Nat} {v : Value} {y : Nat → Nat} (h : w.ownsRow base 5 1 v n ((List.range n).map fun j => Value.int .u8 ((y j : Nat) : Int))) (hy : ∀ j, j < n → y j < 256) :
    ∃ A c, v = .slice A n c ∧ RdB w w.heap.size A n y ∧ (∀ b o, A = some ⟨b, o, none⟩ → v.ownBlock = some b) := by
  rcases h.2 with ⟨rfl, rfl⟩ | ⟨g, cap, cur, rfl, _, hg, _⟩
  · exact ⟨none, 0, rfl, fun j hj => absurd hj (by omega), fun b o e => by cases e⟩
  · refine ⟨_, _, rfl, fun j hj => ⟨g, 0, rfl, (Array.getElem?_eq_some_iff.1 hg).1, ?_, hy j hj⟩, fun b o e => by injection e with e; injection e with e1 _; subst e1; rfl⟩
    rw [Nat.zero_add, h.cellAt j (by omega)]
    simp [hj]
end Go.Proofs.Ytoabhbmhjelplaa
