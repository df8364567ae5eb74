/-
  Plain arithmetic of the field of 256 elements: powers add up as their exponents do; the logarithm of a power of 2. No conditions beyond those that each theorem types.
-/
import Derived.Test.YtlhjpceaookanaaGreatDoorFieldGaussM
import Derived.Test.YtlhjpceaookanaaGreatDoorRackMapM
import Derived.Maps.AppendAt
import Derived.Laws.AppendOwnNone
namespace Go.Proofs.YtlhjpceaookanaaGreatDoor.M
set_option maxRecDepth 100000

theorem lg_two : lg 2 = 1 := by decide +kernel
theorem gpow_zero (a : Nat) : gpow a 0 = 1 := rfl
theorem gpow_of {a m : Nat} (ha : a ≠ 0) : gpow a m = pw (lg a * m) := by
  unfold gpow
  by_cases hm : m = 0
  · subst hm; rw [if_pos rfl, Nat.mul_zero, pw_zero]
  · rw [if_neg hm, if_neg ha, Nat.mul_mod_mod, pw_mod]
theorem gmul_pw (m n : Nat) : gmul (pw m) (pw n) = pw (m + n) := by
  have hm : m % 255 < 255 := Nat.mod_lt _ (by omega)
  have hn : n % 255 < 255 := Nat.mod_lt _ (by omega)
  rw [← pw_mod m, ← pw_mod n]
  have h1 := pw_pos hm
  have h2 := pw_pos hn
  rw [gmul, if_neg (by omega), lg_pw hm, lg_pw hn, ← Nat.add_mod, pw_mod]
theorem gpow_add (a m n : Nat) (ha : a < 256) : gmul (gpow a m) (gpow a n) = gpow a (m + n) := by
  by_cases h0 : a = 0
  · subst h0
    by_cases hm : m = 0
    · subst hm
      rw [gpow_zero, gmul_comm, gmul_one (gpow_lt _ _), Nat.zero_add]
    · have e1 : gpow 0 m = 0 := by rw [gpow, if_neg hm, if_pos rfl]
      have e2 : gpow 0 (m + n) = 0 := by rw [gpow, if_neg (by omega), if_pos rfl]
      rw [e1, e2, gmul_zero_left]
  · rw [gpow_of h0, gpow_of h0, gpow_of h0, gmul_pw, Nat.mul_add]
theorem gpow_two (m : Nat) : gpow 2 m = pw m := by rw [gpow_of (by omega), lg_two, Nat.one_mul]
theorem lg_gpow_two (m : Nat) : lg (gpow 2 m) = m % 255 := by
  rw [gpow_two, ← pw_mod]
  exact lg_pw (Nat.mod_lt _ (by omega))
theorem gpow_two_mod (m : Nat) : gpow 2 (m % 255) = gpow 2 m := by rw [gpow_two, gpow_two, pw_mod]
theorem gpow_two_pos (m : Nat) : gpow 2 m ≠ 0 := by
  have := pw_pos (Nat.mod_lt m (show 0 < 255 by omega))
  rw [gpow_two, ← pw_mod]
  omega
end Go.Proofs.YtlhjpceaookanaaGreatDoor.M
namespace Go.Proofs.YtlhjpceaookanaaGreatDoor.M
set_option maxRecDepth 100000

/-- byte j of a row T behind k bytes of c times X -/
def mixR (T X : Nat → Nat) (c k j : Nat) : Nat := if j < k then T j ^^^ gmul c (X j) else T j
/-- byte v of what parity j makes of k columns -/
def par (k j : Nat) (x : Nat → Nat → Nat) (v : Nat) : Nat := xsum k fun i => gmul (pw (i * j)) (x i v)
theorem par_lt (k j : Nat) (x : Nat → Nat → Nat) (v : Nat) : par k j x v < 256 := xsum_lt fun _ _ => gmul_lt _ _
theorem par_succ (k j : Nat) (x : Nat → Nat → Nat) (v : Nat) : par (k + 1) j x v = par k j x v ^^^ gmul (pw (k * j)) (x k v) := rfl
theorem pw_any_lt (m : Nat) : pw m < 256 := by
  rw [← pw_mod]; exact pw_lt (Nat.mod_lt _ (by omega))
end Go.Proofs.YtlhjpceaookanaaGreatDoor.M
namespace Go.Proofs.YtlhjpceaookanaaGreatDoor
open Go
set_option maxRecDepth 100000
set_option linter.unusedVariables false
namespace Arr
/-- the sectors of so many bytes -/
def secs (n : Nat) : Nat := (n + 127) / 128
/-- the rows of so many sectors -/
def rws (N d : Nat) : Nat := (d + (N - 3) - 1) / (N - 3)
def cost (N n : Nat) : Nat := secs n + 3 * rws N (secs n)
/-- the data sectors of a row -/
def kR (N d r : Nat) : Nat := min (N - 3) (d - r * (N - 3))
/-- a data sector: noughts behind the end -/
def secD (n : Nat) (X : Nat → Nat) (j v : Nat) : Nat := if j * 128 + v < n then X (j * 128 + v) else 0
/-- what the i-th cell of a block must hold -/
def cellX (N n : Nat) (X : Nat → Nat) (i v : Nat) : Nat :=
  if i % N < 3 then M.par (kR N (secs n) (i / N)) (i % N) (fun t => secD n X (i / N * (N - 3) + t)) v else secD n X (i / N * (N - 3) + (i % N - 3)) v
theorem secD_lt {n : Nat} {X : Nat → Nat} (hX : ∀ j, j < n → X j < 256) (j v : Nat) : secD n X j v < 256 := by
  unfold secD
  split
  · rename_i h; exact hX _ h
  · omega
theorem cellX_lt {N n : Nat} {X : Nat → Nat} (hX : ∀ j, j < n → X j < 256) (i v : Nat) : cellX N n X i v < 256 := by
  unfold cellX
  split
  · exact M.par_lt _ _ _ _
  · exact secD_lt hX _ _
theorem secs_le {n : Nat} (h : n ≤ 1024) : secs n ≤ 8 := by unfold secs; omega
theorem secs_pos {n : Nat} (h : 1 ≤ n) : 1 ≤ secs n := by unfold secs; omega
theorem secs_ge (n : Nat) : n ≤ secs n * 128 := by unfold secs; omega
theorem secs_last {n : Nat} (h : 1 ≤ n) : (secs n - 1) * 128 < n := by unfold secs; omega
section
variable {N d : Nat} (hN : 5 ≤ N) (hd : 1 ≤ d)
include hN hd
theorem rws_spec : 1 ≤ rws N d ∧ d ≤ rws N d * (N - 3) ∧ (rws N d - 1) * (N - 3) < d := by
  have h1 := Nat.div_add_mod (d + (N - 3) - 1) (N - 3)
  have h2 := Nat.mod_lt (d + (N - 3) - 1) (show N - 3 > 0 by omega)
  have e : rws N d = (d + (N - 3) - 1) / (N - 3) := rfl
  rw [← e] at h1
  generalize rws N d = q at *
  clear e
  cases q with
  | zero => rw [Nat.mul_zero] at h1; omega
  | succ q =>
    rw [Nat.mul_succ, Nat.mul_comm] at h1
    rw [Nat.add_sub_cancel, Nat.succ_mul]
    omega
theorem rws_le : rws N d ≤ d := by
  obtain ⟨h1, _, h3⟩ := rws_spec hN hd
  generalize rws N d = q at *
  have : (q - 1) * 1 ≤ (q - 1) * (N - 3) := Nat.mul_le_mul_left _ (by omega)
  omega
theorem row_more {r : Nat} : r < rws N d ↔ r * (N - 3) < d := by
  obtain ⟨h1, h2, h3⟩ := rws_spec hN hd
  generalize rws N d = q at *
  constructor
  · intro h
    have : r * (N - 3) ≤ (q - 1) * (N - 3) := Nat.mul_le_mul_right _ (by omega)
    omega
  · intro h
    rcases Nat.lt_or_ge r q with h4 | h4
    · exact h4
    · have : q * (N - 3) ≤ r * (N - 3) := Nat.mul_le_mul_right _ h4
      omega
omit hd in
theorem row_at (r : Nat) : r * N = r * (N - 3) + 3 * r := by
  have h : r * N = r * ((N - 3) + 3) := by rw [show (N - 3) + 3 = N by omega]
  rw [h, Nat.mul_add]
  omega
/-- a row's cells -/
theorem row_cells {r : Nat} (hr : r < rws N d) : 1 ≤ kR N d r ∧ kR N d r ≤ N - 3 ∧ kR N d r + 3 = min N (d + 3 * rws N d - r * N) ∧ r * N + (kR N d r + 3) ≤ d + 3 * rws N d ∧ r * (N - 3) + kR N d r ≤ d := by
  have h0 := (row_more hN hd).1 hr
  obtain ⟨h1, h2, h3⟩ := rws_spec hN hd
  have h4 := row_at hN r
  unfold kR
  generalize rws N d = q at *
  rcases Nat.lt_or_ge (r + 1) q with h5 | h5
  · have h6 : (r + 1) * (N - 3) ≤ (q - 1) * (N - 3) := Nat.mul_le_mul_right _ (by omega)
    rw [Nat.succ_mul] at h6
    generalize r * (N - 3) = x at *
    generalize (q - 1) * (N - 3) = y at *
    generalize q * (N - 3) = z at *
    omega
  · obtain rfl : q = r + 1 := by omega
    rw [Nat.succ_mul] at h2
    generalize r * (N - 3) = x at *
    generalize (r + 1 - 1) * (N - 3) = y at *
    omega
/-- behind a row -/
theorem row_next {r : Nat} (hr : r < rws N d) : (if r + 1 < rws N d then kR N d r = N - 3 else (r * N + (kR N d r + 3) = d + 3 * rws N d ∧ r * (N - 3) + kR N d r = d)) := by
  have h0 := (row_more hN hd).1 hr
  obtain ⟨h1, h2, h3⟩ := rws_spec hN hd
  have h4 := row_at hN r
  unfold kR
  generalize rws N d = q at *
  rcases Nat.lt_or_ge (r + 1) q with h5 | h5
  · rw [if_pos h5]
    have h6 : (r + 1) * (N - 3) ≤ (q - 1) * (N - 3) := Nat.mul_le_mul_right _ (by omega)
    rw [Nat.succ_mul] at h6
    generalize r * (N - 3) = x at *
    generalize (q - 1) * (N - 3) = y at *
    generalize q * (N - 3) = z at *
    omega
  · rw [if_neg (by omega)]
    obtain rfl : q = r + 1 := by omega
    rw [Nat.succ_mul] at h2
    generalize r * (N - 3) = x at *
    generalize (r + 1 - 1) * (N - 3) = y at *
    omega
end
section
variable {N : Nat}
theorem cell_row {r p : Nat} (hp : p < N) : (r * N + p) / N = r ∧ (r * N + p) % N = p := by
  have h0 : 0 < N := by omega
  constructor
  · rw [Nat.mul_comm, Nat.mul_add_div h0, Nat.div_eq_of_lt hp, Nat.add_zero]
  · rw [Nat.mul_comm, Nat.mul_add_mod, Nat.mod_eq_of_lt hp]
theorem cellX_par (n : Nat) (X : Nat → Nat) {r p : Nat} (v : Nat) (hN : 3 ≤ N) (hp : p < 3) : cellX N n X (r * N + p) v = M.par (kR N (secs n) r) p (fun t => secD n X (r * (N - 3) + t)) v := by
  obtain ⟨h1, h2⟩ := cell_row (N := N) (r := r) (p := p) (by omega)
  unfold cellX
  rw [h1, h2, if_pos hp]
theorem cellX_data (n : Nat) (X : Nat → Nat) {r t : Nat} (v : Nat) (ht : t + 3 < N) : cellX N n X (r * N + 3 + t) v = secD n X (r * (N - 3) + t) v := by
  obtain ⟨h1, h2⟩ := cell_row (N := N) (r := r) (p := 3 + t) (by omega)
  unfold cellX
  rw [Nat.add_assoc, h1, h2, if_neg (by omega), show 3 + t - 3 = t by omega]
end
end Arr
end Go.Proofs.YtlhjpceaookanaaGreatDoor
namespace Go.Proofs.YtlhjpceaookanaaGreatDoor
open Go Go.RowKit
set_option maxRecDepth 100000
set_option linter.unusedVariables false
namespace Gr
section
variable {α : Type} {E : TypeId} {k : Nat} {cs : α → List Value}
theorem flat_length (hk : ∀ x, (cs x).length = k) : ∀ l : List α, (l.flatMap cs).length = l.length * k
  | [] => by simp
  | x :: l => by rw [List.flatMap_cons, List.length_append, hk, flat_length hk l, List.length_cons, Nat.succ_mul]; omega
theorem flat_get (hk : ∀ x, (cs x).length = k) : ∀ {l : List α} {i : Nat} {x : α}, l[i]? = some x → ∀ j, j < k → (l.flatMap cs)[i * k + j]? = (cs x)[j]?
  | [], i, x, h, _, _ => by simp at h
  | y :: l, 0, x, h, j, hj => by
    simp at h
    subst h
    rw [List.flatMap_cons, Nat.zero_mul, Nat.zero_add, List.getElem?_append_left (by rw [hk]; exact hj)]
  | y :: l, i + 1, x, h, j, hj => by
    rw [List.getElem?_cons_succ] at h
    rw [List.flatMap_cons, List.getElem?_append_right (by rw [hk, Nat.succ_mul]; omega), hk, show (i + 1) * k + j - k = i * k + j by rw [Nat.succ_mul]; omega]
    exact flat_get hk h j hj
def OwnG (E : TypeId) (k : Nat) (cs : α → List Value) (w : World) (base : Nat) (v : Value) (l : List α) : Prop := w.ownsRow base E k v l.length (l.flatMap cs)
def RdG (k : Nat) (cs : α → List Value) (w : World) (A : Option Addr) (l : List α) : Prop := ∀ i x, l[i]? = some x → ∃ b o, A = some ⟨b, o, none⟩ ∧ b < w.heap.size ∧ ∀ j u, (cs x)[j]? = some u → w.cell? ⟨b, o + i * k + j, none⟩ = some u
variable {w w' : World} {base : Nat} {v : Value} {l m : List α} {A : Option Addr}
theorem OwnG.nil (w : World) (base : Nat) : OwnG E k cs w base (.slice none 0 0) ([] : List α) := World.ownsRow_nil w base _ k
theorem RdG.below (h : RdG k cs w A l) (hb : Below w.heap.size w w') : RdG k cs w' A l := fun i x hx => by
  obtain ⟨b, o, h1, h2, h3⟩ := h i x hx
  exact ⟨b, o, h1, Nat.lt_of_lt_of_le h2 hb.size, fun j u hu => (hb.cell (p := ⟨b, o + i * k + j, none⟩) h2).trans (h3 j u hu)⟩
theorem RdG.keep (h : RdG k cs w A l) (hz : w.heap.size ≤ w'.heap.size) (hf : ∀ b o s, A = some ⟨b, o, s⟩ → w'.heap[b]? = w.heap[b]?) : RdG k cs w' A l := fun i x hx => by
  obtain ⟨b, o, h1, h2, h3⟩ := h i x hx
  refine ⟨b, o, h1, Nat.lt_of_lt_of_le h2 hz, fun j u hu => ?_⟩
  have h4 := h3 j u hu
  have h5 := hf b o none h1
  unfold World.cell? at h4 ⊢
  rw [h5]
  exact h4
theorem OwnG.shape (h : OwnG E k cs w base v l) (hk : ∀ x, (cs x).length = k) : ∃ A c, v = .slice A l.length c ∧ RdG k cs w A l ∧ l.length ≤ c ∧ c ≤ maxLen ∧ (A = none → c = 0) ∧ (∀ b o s, A = some ⟨b, o, s⟩ → base ≤ b ∧ b < w.heap.size) := by
  rcases h.2 with ⟨h1, h2⟩ | ⟨g, cap, cur, h1, h2, h3, h4, h5, h6, h7⟩
  · refine ⟨none, 0, by rw [h1, h2], fun i x hx => ?_, by omega, by unfold maxLen; omega, (fun _ => rfl), (fun b o s e => by cases e)⟩
    have := (List.getElem?_eq_some_iff.1 hx).1; omega
  · have hlt := (Array.getElem?_eq_some_iff.1 h3).1
    refine ⟨_, cap, h1, fun i x hx => ?_, h4, h5, (fun e => by cases e), (fun b o s e => by injection e with e; injection e with e; subst e; exact ⟨h2, hlt⟩)⟩
    have hi := (List.getElem?_eq_some_iff.1 hx).1
    refine ⟨g, 0, rfl, hlt, fun j u hu => ?_⟩
    have hj : j < k := by have := (List.getElem?_eq_some_iff.1 hu).1; rw [hk] at this; exact this
    have hb : i * k + j < l.length * k := by
      have : (i + 1) * k ≤ l.length * k := Nat.mul_le_mul_right k hi
      rw [Nat.succ_mul] at this
      omega
    rw [Nat.zero_add, cell_of_row w g _ cur E (0, 0) h3]
    have h8 := flat_get hk hx j hj
    rw [hu, ← h7, List.getElem?_take_of_lt hb] at h8
    rw [← h8]
    simp
theorem OwnG.lt (h : OwnG E k cs w base v l) {g : Nat} (hg : v.ownBlock = some g) : g < w.heap.size ∧ base ≤ g := by
  rcases h.2 with ⟨h1, h2⟩ | ⟨g', cap, cur, h1, h2, h3, _⟩
  · rw [h1] at hg; cases hg
  · rw [h1] at hg; injection hg with hg; subst hg; exact ⟨(Array.getElem?_eq_some_iff.1 h3).1, h2⟩
theorem OwnG.keep (h : OwnG E k cs w base v l) (hf : ∀ g, v.ownBlock = some g → w'.heap[g]? = w.heap[g]?) : OwnG E k cs w' base v l := by
  refine ⟨h.1, ?_⟩
  rcases h.2 with h1 | ⟨g', cap, cur, h1, h2, h3, h4⟩
  · exact .inl h1
  · exact .inr ⟨g', cap, cur, h1, h2, (hf g' (by rw [h1]; rfl)).trans h3, h4⟩
theorem OwnG.below {B : Nat} (h : OwnG E k cs w base v l) (hb : Below B w w') (hB : w.heap.size ≤ B) : OwnG E k cs w' base v l := h.keep fun g hg => hb.block g (by have := (h.lt hg).1; omega)
theorem OwnG.grown {row : Option Nat} (h : OwnG E k cs w base v l) (hb : w.grownBy w' row) (hne : ∀ g, v.ownBlock = some g → some g ≠ row) : OwnG E k cs w' base v l := h.keep fun g hg => hb.block g (h.lt hg).1 (hne g hg)
theorem OwnG.blk_of (h : OwnG E k cs w base v l) {g : Nat} (hg : v.ownBlock = some g) : ∃ cur, Blk w g E cur := by
  rcases h.2 with ⟨h1, h2⟩ | ⟨g', cap, cur, h1, h2, h3, _⟩
  · rw [h1] at hg; cases hg
  · rw [h1] at hg; injection hg with hg; subst hg; exact ⟨cur, h3⟩
/-- 'append(l, m...)' -/
theorem run_append {T : TypeId} {z : Value} {bytes : Nat} (hk : ∀ x, (cs x).length = k) (hone : ∀ x, ∀ u ∈ cs x, u.oneCell' = true) (hu : Tryz.prog.underlying T = some (.slice E)) (hi : (Tryz.prog.info? E).map (fun i => (i.zero, i.size, i.bytes)) = some (some z, k, bytes)) (hzs : z.cells.size = k) (hk0 : 0 < k) (hby : bytes ≤ 64)
    (ty : TypeId) (h : OwnG E k cs w base v l) {ad : Addr} {c : Nat} (hr : ∀ j u, (m.flatMap cs)[j]? = some u → w.cell? (ad.add j) = some u) (hl : l.length + m.length ≤ 1099511627776) (hb : base ≤ w.heap.size) :
    ∃ v' w', (Builtin.append_ #[T, T] ty #[v, .slice (some ad) m.length c]).run Tryz.prog w = .ok v' w' ∧ OwnG E k cs w' base v' (l ++ m) ∧ w.grownBy w' v.ownBlock ∧ (v'.ownBlock = v.ownBlock ∨ v'.ownBlock = some w.heap.size) := by
  obtain ⟨i0, hi', hz0, hz1, hz2⟩ : ∃ i0, Tryz.prog.info? E = some i0 ∧ i0.zero = some z ∧ i0.size = k ∧ i0.bytes = bytes := by
    cases hE : Tryz.prog.info? E with
    | none => rw [hE] at hi; simp at hi
    | some i => rw [hE] at hi; simp at hi; exact ⟨i, rfl, hi.1, hi.2.1, hi.2.2⟩
  obtain ⟨v', w', e1, e2, e3, e4, e5⟩ := run_append_own_at (P := Tryz.prog) w base T ty E i0 z k bytes hu hi' hz0 hz1 hz2 hzs hk0 v l.length (l.flatMap cs) h ad m.length c (m.flatMap cs) (flat_length hk m) hr
    (fun u hu => by obtain ⟨x, _, hx⟩ := List.mem_flatMap.1 hu; exact hone x u hx) (by unfold maxLen; omega) (by
      have := Nat.mul_le_mul_left (l.length + m.length) hby
      omega) hb
  refine ⟨v', w', e1, ?_, e3, e5⟩
  unfold OwnG
  rw [List.length_append, List.flatMap_append]
  exact e2
/-- what lies in a block of its own, as a row of one -/
theorem one_cells (x : α) (W : World) (t : TypeId) : ∀ j u, (([x] : List α).flatMap cs)[j]? = some u → (W.alloc (.cells (cs x).toArray t)).cell? ((⟨W.heap.size, 0, none⟩ : Addr).add j) = some u := by
  intro j u hj
  rw [add_plain, Nat.zero_add, (Blk.new W t _).cell]
  simpa using hj
end
/-- 'xs[i]' of elements of so many cells -/
theorem index_gen {P : Program} {t e : TypeId} {k : Nat} (ht : P.underlying t = some (.slice e)) (hi : (P.info? e).map (·.size) = some k) (b o n c i : Nat) (hlt : i < n) (w : World) :
    (Instr.indexAt t (.slice (some ⟨b, o, none⟩) n c) (.int .i64 (i : Int))).run P w = .ok (.pointer (some ⟨b, o + i * k, none⟩)) w := by
  cases hq : P.info? e with
  | none => simp [hq] at hi
  | some inf =>
    have hs : inf.size = k := by simpa [hq] using hi
    have h2 : (i : Int) < (n : Int) := by omega
    unfold Instr.indexAt asIntOf
    simp [run_underlying ht, Sem.run_bind, sizeOf, typeInfo, hq, hs, hlt, add_plain]
theorem wp_append {w : World} {o : Oper} {a : Act} {K : Act → World → Prop} {Q : Exit → Act → World → Prop} (T : TypeId) (s x : Operand) (ho : o.op = .call { callee := .builtin .append, args := #[s, x], argTypes := #[T, T] })
    {v y v' : Value} {w' : World} (hs : a.eval s = v) (hx : a.eval x = y) (hrun : (Builtin.append_ #[T, T] o.type #[v, y]).run Tryz.prog w = .ok v' w') (h : K (a.put o.dst v') w') : o.wp Tryz.prog a w K Q := by
  unfold Oper.wp execOp
  simp only [ho, resolve, invoke, builtin, Sem.run_bind, Sem.run_pure, Result.andThen_ok, List.map_toArray, List.map_cons, List.map_nil, hs, hx, hrun]
  exact h
theorem wpList_append {w : World} {ops : Array Oper} {rest : List Oper} {o : Oper} {a : Act} {Q : Exit → Act → World → Prop} (hgd : o.guard = none) (T : TypeId) (s x : Operand) (ho : o.op = .call { callee := .builtin .append, args := #[s, x], argTypes := #[T, T] })
    {v y v' : Value} {w' : World} (hs : a.eval s = v) (hx : a.eval x = y) (hrun : ∀ ty, (Builtin.append_ #[T, T] ty #[v, y]).run Tryz.prog w = .ok v' w') (h : wpList Tryz.prog ops Q rest (a.put o.dst v') w') : wpList Tryz.prog ops Q (o :: rest) a w :=
  wpList_plain hgd fun K hK' => wp_append T s x ho hs hx (hrun o.type) (hK' _ _ h)
end Gr
end Go.Proofs.YtlhjpceaookanaaGreatDoor
