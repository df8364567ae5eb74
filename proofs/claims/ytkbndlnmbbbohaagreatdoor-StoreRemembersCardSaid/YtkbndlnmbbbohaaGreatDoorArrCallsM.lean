/-
 Plain arithmetic of the field of 256 elements: powers add up as their exponents do; the logarithm of a power of 2. No conditions beyond those that each theorem types.
-/
import Derived.Test.YtkbndlnmbbbohaaGreatDoorFieldGaussM
import Derived.Test.YtkbndlnmbbbohaaGreatDoorRackMapM
import Derived.Maps.AppendAt
import Derived.Laws.AppendOwnNone
import Derived.Laws.MakeOwn
import Derived.Test.YtkbndlnmbbbohaaGreatDoorLawStrM
import Derived.Test.YtkbndlnmbbbohaaGreatDoorRackHasM
namespace Go.Proofs.YtkbndlnmbbbohaaGreatDoor.M
set_option maxRecDepth 100000
theorem lg_two : lg 2 = 1 := by decide +kernel
theorem gpow_of {a m : Nat} (ha : a ≠ 0) : gpow a m = pw (lg a * m) := by
 unfold gpow
 by_cases hm : m = 0
 ·subst hm; rw [if_pos rfl, Nat.mul_zero, pw_zero]
 ·rw [if_neg hm, if_neg ha, Nat.mul_mod_mod, pw_mod]
theorem gmul_pw (m n : Nat) : gmul (pw m) (pw n) = pw (m + n) := by
 have hm : m % 255 < 255 := Nat.mod_lt _ (by omega)
 have hn : n % 255 < 255 := Nat.mod_lt _ (by omega)
 rw [← pw_mod m, ← pw_mod n]
 have h1 := pw_pos hm
 have h2 := pw_pos hn
 rw [gmul, if_neg (by omega), lg_pw hm, lg_pw hn, ← Nat.add_mod, pw_mod]
theorem gpow_two (m : Nat) : gpow 2 m = pw m := by rw [gpow_of (by omega), lg_two, Nat.one_mul]
end Go.Proofs.YtkbndlnmbbbohaaGreatDoor.M
namespace Go.Proofs.YtkbndlnmbbbohaaGreatDoor.M
set_option maxRecDepth 100000
def mixR (T X : Nat → Nat) (c k j : Nat) : Nat := if j < k then T j ^^^ gmul c (X j) else T j
def par (k j : Nat) (x : Nat → Nat → Nat) (v : Nat) : Nat := xsum k fun i => gmul (pw (i * j)) (x i v)
theorem par_lt (k j : Nat) (x : Nat → Nat → Nat) (v : Nat) : par k j x v < 256 := xsum_lt fun _ _ => gmul_lt _ _
theorem par_succ (k j : Nat) (x : Nat → Nat → Nat) (v : Nat) : par (k + 1) j x v = par k j x v ^^^ gmul (pw (k * j)) (x k v) := rfl
theorem pw_any_lt (m : Nat) : pw m < 256 := by
 rw [← pw_mod]; exact pw_lt (Nat.mod_lt _ (by omega))
end Go.Proofs.YtkbndlnmbbbohaaGreatDoor.M
namespace Go.Proofs.YtkbndlnmbbbohaaGreatDoor
open Go
set_option maxRecDepth 100000
set_option linter.unusedVariables false
namespace Arr
def secs (n : Nat) : Nat := (n + 127) / 128
def rws (N d : Nat) : Nat := (d + (N - 3) - 1) / (N - 3)
def cost (N n : Nat) : Nat := secs n + 3 * rws N (secs n)
def kR (N d r : Nat) : Nat := min (N - 3) (d - r * (N - 3))
def secD (n : Nat) (X : Nat → Nat) (j v : Nat) : Nat := if j * 128 + v < n then X (j * 128 + v) else 0
def cellX (N n : Nat) (X : Nat → Nat) (i v : Nat) : Nat :=
 if i % N < 3 then M.par (kR N (secs n) (i / N)) (i % N) (fun t => secD n X (i / N * (N - 3) + t)) v else secD n X (i / N * (N - 3) + (i % N - 3)) v
theorem secD_lt {n : Nat} {X : Nat → Nat} (hX : ∀ j, j < n → X j < 256) (j v : Nat) : secD n X j v < 256 := by
 unfold secD
 split
 ·rename_i h; exact hX _ h
 ·omega
theorem cellX_lt {N n : Nat} {X : Nat → Nat} (hX : ∀ j, j < n → X j < 256) (i v : Nat) : cellX N n X i v < 256 := by
 unfold cellX
 split
 ·exact M.par_lt _ _ _ _
 ·exact secD_lt hX _ _
theorem secs_le {n : Nat} (h : n ≤ 1024) : secs n ≤ 8 := by unfold secs; omega
theorem secs_pos {n : Nat} (h : 1 ≤ n) : 1 ≤ secs n := by unfold secs; omega
theorem secs_ge (n : Nat) : n ≤ secs n * 128 := by unfold secs; omega
theorem secs_last {n : Nat} (h : 1 ≤ n) : (secs n - 1) * 128 < n := by unfold secs; omega
section
variable {N d : Nat} (hN : 5 ≤ N) (hd : 1 ≤ d)
include hN hd
theorem rws_spec : 1 ≤ rws N d ∧ d ≤ rws N d * (N - 3) ∧ (rws N d - 1) * (N - 3) < d := by
 have h1 := Nat.div_add_mod (d + (N - 3) - 1) (N - 3)
 have h2 := Nat.mod_lt (d + (N - 3) - 1) (show N - 3 > 0 by omega)
 have e : rws N d = (d + (N - 3) - 1) / (N - 3) := rfl
 rw [← e] at h1
 generalize rws N d = q at *
 clear e
 cases q with
 | zero => rw [Nat.mul_zero] at h1; omega
 | succ q =>
  rw [Nat.mul_succ, Nat.mul_comm] at h1
  rw [Nat.add_sub_cancel, Nat.succ_mul]
  omega
theorem rws_le : rws N d ≤ d := by
 obtain ⟨h1, _, h3⟩ := rws_spec hN hd
 generalize rws N d = q at *
 have : (q - 1) * 1 ≤ (q - 1) * (N - 3) := Nat.mul_le_mul_left _ (by omega)
 omega
theorem row_more {r : Nat} : r < rws N d ↔ r * (N - 3) < d := by
 obtain ⟨h1, h2, h3⟩ := rws_spec hN hd
 generalize rws N d = q at *
 constructor
 ·intro h
  have : r * (N - 3) ≤ (q - 1) * (N - 3) := Nat.mul_le_mul_right _ (by omega)
  omega
 ·intro h
  rcases Nat.lt_or_ge r q with h4 | h4
  ·exact h4
  ·have : q * (N - 3) ≤ r * (N - 3) := Nat.mul_le_mul_right _ h4
   omega
omit hd in
theorem row_at (r : Nat) : r * N = r * (N - 3) + 3 * r := by
 have h : r * N = r * ((N - 3) + 3) := by rw [show (N - 3) + 3 = N by omega]
 rw [h, Nat.mul_add]
 omega
theorem row_cells {r : Nat} (hr : r < rws N d) : 1 ≤ kR N d r ∧ kR N d r ≤ N - 3 ∧ kR N d r + 3 = min N (d + 3 * rws N d - r * N) ∧ r * N + (kR N d r + 3) ≤ d + 3 * rws N d ∧ r * (N - 3) + kR N d r ≤ d := by
 have h0 := (row_more hN hd).1 hr
 obtain ⟨h1, h2, h3⟩ := rws_spec hN hd
 have h4 := row_at hN r
 unfold kR
 generalize rws N d = q at *
 rcases Nat.lt_or_ge (r + 1) q with h5 | h5
 ·have h6 : (r + 1) * (N - 3) ≤ (q - 1) * (N - 3) := Nat.mul_le_mul_right _ (by omega)
  rw [Nat.succ_mul] at h6
  generalize r * (N - 3) = x at *
  generalize (q - 1) * (N - 3) = y at *
  generalize q * (N - 3) = z at *
  omega
 ·obtain rfl : q = r + 1 := by omega
  rw [Nat.succ_mul] at h2
  generalize r * (N - 3) = x at *
  generalize (r + 1 - 1) * (N - 3) = y at *
  omega
theorem row_next {r : Nat} (hr : r < rws N d) : (if r + 1 < rws N d then kR N d r = N - 3 else (r * N + (kR N d r + 3) = d + 3 * rws N d ∧ r * (N - 3) + kR N d r = d)) := by
 have h0 := (row_more hN hd).1 hr
 obtain ⟨h1, h2, h3⟩ := rws_spec hN hd
 have h4 := row_at hN r
 unfold kR
 generalize rws N d = q at *
 rcases Nat.lt_or_ge (r + 1) q with h5 | h5
 ·rw [if_pos h5]
  have h6 : (r + 1) * (N - 3) ≤ (q - 1) * (N - 3) := Nat.mul_le_mul_right _ (by omega)
  rw [Nat.succ_mul] at h6
  generalize r * (N - 3) = x at *
  generalize (q - 1) * (N - 3) = y at *
  generalize q * (N - 3) = z at *
  omega
 ·rw [if_neg (by omega)]
  obtain rfl : q = r + 1 := by omega
  rw [Nat.succ_mul] at h2
  generalize r * (N - 3) = x at *
  generalize (r + 1 - 1) * (N - 3) = y at *
  omega
end
section
variable {N : Nat}
theorem cell_row {r p : Nat} (hp : p < N) : (r * N + p) / N = r ∧ (r * N + p) % N = p := by
 have h0 : 0 < N := by omega
 constructor
 ·rw [Nat.mul_comm, Nat.mul_add_div h0, Nat.div_eq_of_lt hp, Nat.add_zero]
 ·rw [Nat.mul_comm, Nat.mul_add_mod, Nat.mod_eq_of_lt hp]
theorem cellX_par (n : Nat) (X : Nat → Nat) {r p : Nat} (v : Nat) (hN : 3 ≤ N) (hp : p < 3) : cellX N n X (r * N + p) v = M.par (kR N (secs n) r) p (fun t => secD n X (r * (N - 3) + t)) v := by
 obtain ⟨h1, h2⟩ := cell_row (N := N) (r := r) (p := p) (by omega)
 unfold cellX
 rw [h1, h2, if_pos hp]
theorem cellX_data (n : Nat) (X : Nat → Nat) {r t : Nat} (v : Nat) (ht : t + 3 < N) : cellX N n X (r * N + 3 + t) v = secD n X (r * (N - 3) + t) v := by
 obtain ⟨h1, h2⟩ := cell_row (N := N) (r := r) (p := 3 + t) (by omega)
 unfold cellX
 rw [Nat.add_assoc, h1, h2, if_neg (by omega), show 3 + t - 3 = t by omega]
end
end Arr
end Go.Proofs.YtkbndlnmbbbohaaGreatDoor
namespace Go.Proofs.YtkbndlnmbbbohaaGreatDoor
open Go Go.RowKit
set_option maxRecDepth 100000
set_option linter.unusedVariables false
namespace Gr
section
variable {α : Type} {E : TypeId} {k : Nat} {cs : α → List Value}
theorem flat_length (hk : ∀ x, (cs x).length = k) : ∀ l : List α, (l.flatMap cs).length = l.length * k
 | [] => by simp
 | x :: l => by rw [List.flatMap_cons, List.length_append, hk, flat_length hk l, List.length_cons, Nat.succ_mul]; omega
theorem flat_get (hk : ∀ x, (cs x).length = k) : ∀ {l : List α} {i : Nat} {x : α}, l[i]? = some x → ∀ j, j < k → (l.flatMap cs)[i * k + j]? = (cs x)[j]?
 | [], i, x, h, _, _ => by simp at h
 | y :: l, 0, x, h, j, hj => by
  simp at h
  subst h
  rw [List.flatMap_cons, Nat.zero_mul, Nat.zero_add, List.getElem?_append_left (by rw [hk]; exact hj)]
 | y :: l, i + 1, x, h, j, hj => by
  rw [List.getElem?_cons_succ] at h
  rw [List.flatMap_cons, List.getElem?_append_right (by rw [hk, Nat.succ_mul]; omega), hk, show (i + 1) * k + j - k = i * k + j by rw [Nat.succ_mul]; omega]
  exact flat_get hk h j hj
def OwnG (E : TypeId) (k : Nat) (cs : α → List Value) (w : World) (base : Nat) (v : Value) (l : List α) : Prop := w.ownsRow base E k v l.length (l.flatMap cs)
def RdG (k : Nat) (cs : α → List Value) (w : World) (A : Option Addr) (l : List α) : Prop := ∀ i x, l[i]? = some x → ∃ b o, A = some ⟨b, o, none⟩ ∧ b < w.heap.size ∧ ∀ j u, (cs x)[j]? = some u → w.cell? ⟨b, o + i * k + j, none⟩ = some u
variable {w w' : World} {base : Nat} {v : Value} {l m : List α} {A : Option Addr}
theorem OwnG.nil (w : World) (base : Nat) : OwnG E k cs w base (.slice none 0 0) ([] : List α) := World.ownsRow_nil w base _ k
theorem RdG.below (h : RdG k cs w A l) (hb : Below w.heap.size w w') : RdG k cs w' A l := fun i x hx => by
 obtain ⟨b, o, h1, h2, h3⟩ := h i x hx
 exact ⟨b, o, h1, Nat.lt_of_lt_of_le h2 hb.size, fun j u hu => (hb.cell (p := ⟨b, o + i * k + j, none⟩) h2).trans (h3 j u hu)⟩
theorem OwnG.shape (h : OwnG E k cs w base v l) (hk : ∀ x, (cs x).length = k) : ∃ A c, v = .slice A l.length c ∧ RdG k cs w A l ∧ l.length ≤ c ∧ c ≤ maxLen ∧ (A = none → c = 0) ∧ (∀ b o s, A = some ⟨b, o, s⟩ → base ≤ b ∧ b < w.heap.size) := by
 rcases h.2 with ⟨h1, h2⟩ | ⟨g, cap, cur, h1, h2, h3, h4, h5, h6, h7⟩
 ·refine ⟨none, 0, by rw [h1, h2], fun i x hx => ?_, by omega, by unfold maxLen; omega, (fun _ => rfl), (fun b o s e => by cases e)⟩
  have := (List.getElem?_eq_some_iff.1 hx).1; omega
 ·have hlt := (Array.getElem?_eq_some_iff.1 h3).1
  refine ⟨_, cap, h1, fun i x hx => ?_, h4, h5, (fun e => by cases e), (fun b o s e => by injection e with e; injection e with e; subst e; exact ⟨h2, hlt⟩)⟩
  have hi := (List.getElem?_eq_some_iff.1 hx).1
  refine ⟨g, 0, rfl, hlt, fun j u hu => ?_⟩
  have hj : j < k := by have := (List.getElem?_eq_some_iff.1 hu).1; rw [hk] at this; exact this
  have hb : i * k + j < l.length * k := by
   have : (i + 1) * k ≤ l.length * k := Nat.mul_le_mul_right k hi
   rw [Nat.succ_mul] at this
   omega
  rw [Nat.zero_add, cell_of_row w g _ cur E (0, 0) h3]
  have h8 := flat_get hk hx j hj
  rw [hu, ← h7, List.getElem?_take_of_lt hb] at h8
  rw [← h8]
  simp
theorem OwnG.lt (h : OwnG E k cs w base v l) {g : Nat} (hg : v.ownBlock = some g) : g < w.heap.size ∧ base ≤ g := by
 rcases h.2 with ⟨h1, h2⟩ | ⟨g', cap, cur, h1, h2, h3, _⟩
 ·rw [h1] at hg; cases hg
 ·rw [h1] at hg; injection hg with hg; subst hg; exact ⟨(Array.getElem?_eq_some_iff.1 h3).1, h2⟩
theorem OwnG.keep (h : OwnG E k cs w base v l) (hf : ∀ g, v.ownBlock = some g → w'.heap[g]? = w.heap[g]?) : OwnG E k cs w' base v l := by
 refine ⟨h.1, ?_⟩
 rcases h.2 with h1 | ⟨g', cap, cur, h1, h2, h3, h4⟩
 ·exact .inl h1
 ·exact .inr ⟨g', cap, cur, h1, h2, (hf g' (by rw [h1]; rfl)).trans h3, h4⟩
theorem OwnG.below {B : Nat} (h : OwnG E k cs w base v l) (hb : Below B w w') (hB : w.heap.size ≤ B) : OwnG E k cs w' base v l := h.keep fun g hg => hb.block g (by have := (h.lt hg).1; omega)
theorem OwnG.blk_of (h : OwnG E k cs w base v l) {g : Nat} (hg : v.ownBlock = some g) : ∃ cur, Blk w g E cur := by
 rcases h.2 with ⟨h1, h2⟩ | ⟨g', cap, cur, h1, h2, h3, _⟩
 ·rw [h1] at hg; cases hg
 ·rw [h1] at hg; injection hg with hg; subst hg; exact ⟨cur, h3⟩
theorem run_append {T : TypeId} {z : Value} {bytes : Nat} (hk : ∀ x, (cs x).length = k) (hone : ∀ x, ∀ u ∈ cs x, u.oneCell' = true) (hu : Tryz.prog.underlying T = some (.slice E)) (hi : (Tryz.prog.info? E).map (fun i => (i.zero, i.size, i.bytes)) = some (some z, k, bytes)) (hzs : z.cells.size = k) (hk0 : 0 < k) (hby : bytes ≤ 64)
  (ty : TypeId) (h : OwnG E k cs w base v l) {ad : Addr} {c : Nat} (hr : ∀ j u, (m.flatMap cs)[j]? = some u → w.cell? (ad.add j) = some u) (hl : l.length + m.length ≤ 1099511627776) (hb : base ≤ w.heap.size) :
  ∃ v' w', (Builtin.append_ #[T, T] ty #[v, .slice (some ad) m.length c]).run Tryz.prog w = .ok v' w' ∧ OwnG E k cs w' base v' (l ++ m) ∧ w.grownBy w' v.ownBlock ∧ (v'.ownBlock = v.ownBlock ∨ v'.ownBlock = some w.heap.size) := by
 obtain ⟨i0, hi', hz0, hz1, hz2⟩ : ∃ i0, Tryz.prog.info? E = some i0 ∧ i0.zero = some z ∧ i0.size = k ∧ i0.bytes = bytes := by
  cases hE : Tryz.prog.info? E with
  | none => rw [hE] at hi; simp at hi
  | some i => rw [hE] at hi; simp at hi; exact ⟨i, rfl, hi.1, hi.2.1, hi.2.2⟩
 obtain ⟨v', w', e1, e2, e3, e4, e5⟩ := run_append_own_at (P := Tryz.prog) w base T ty E i0 z k bytes hu hi' hz0 hz1 hz2 hzs hk0 v l.length (l.flatMap cs) h ad m.length c (m.flatMap cs) (flat_length hk m) hr
  (fun u hu => by obtain ⟨x, _, hx⟩ := List.mem_flatMap.1 hu; exact hone x u hx) (by unfold maxLen; omega) (by
   have := Nat.mul_le_mul_left (l.length + m.length) hby
   omega) hb
 refine ⟨v', w', e1, ?_, e3, e5⟩
 unfold OwnG
 rw [List.length_append, List.flatMap_append]
 exact e2
theorem one_cells (x : α) (W : World) (t : TypeId) : ∀ j u, (([x] : List α).flatMap cs)[j]? = some u → (W.alloc (.cells (cs x).toArray t)).cell? ((⟨W.heap.size, 0, none⟩ : Addr).add j) = some u := by
 intro j u hj
 rw [add_plain, Nat.zero_add, (Blk.new W t _).cell]
 simpa using hj
end
theorem index_gen {P : Program} {t e : TypeId} {k : Nat} (ht : P.underlying t = some (.slice e)) (hi : (P.info? e).map (·.size) = some k) (b o n c i : Nat) (hlt : i < n) (w : World) :
  (Instr.indexAt t (.slice (some ⟨b, o, none⟩) n c) (.int .i64 (i : Int))).run P w = .ok (.pointer (some ⟨b, o + i * k, none⟩)) w := by
 cases hq : P.info? e with
 | none => simp [hq] at hi
 | some inf =>
  have hs : inf.size = k := by simpa [hq] using hi
  have h2 : (i : Int) < (n : Int) := by omega
  unfold Instr.indexAt asIntOf
  simp [run_underlying ht, Sem.run_bind, sizeOf, typeInfo, hq, hs, hlt, add_plain]
theorem wp_append {w : World} {o : Oper} {a : Act} {K : Act → World → Prop} {Q : Exit → Act → World → Prop} (T : TypeId) (s x : Operand) (ho : o.op = .call { callee := .builtin .append, args := #[s, x], argTypes := #[T, T] })
  {v y v' : Value} {w' : World} (hs : a.eval s = v) (hx : a.eval x = y) (hrun : (Builtin.append_ #[T, T] o.type #[v, y]).run Tryz.prog w = .ok v' w') (h : K (a.put o.dst v') w') : o.wp Tryz.prog a w K Q := by
 unfold Oper.wp execOp
 simp only [ho, resolve, invoke, builtin, Sem.run_bind, Sem.run_pure, Result.andThen_ok, List.map_toArray, List.map_cons, List.map_nil, hs, hx, hrun]
 exact h
end Gr
end Go.Proofs.YtkbndlnmbbbohaaGreatDoor
namespace Go.Proofs.YtkbndlnmbbbohaaGreatDoor
open Go Go.RowKit
set_option maxRecDepth 100000
set_option linter.unusedVariables false
namespace Ir
theorem info_int : (Tryz.prog.info? 3).map (fun i => (i.zero, i.size, i.bytes)) = some (some (.int .i64 0), 1, 8) := by kernel_rfl
def intA (n : Nat) (f : Nat → Int) : Array Value := Array.ofFn (n := n) fun c => .int .i64 (f c.val)
theorem intA_get {n : Nat} {f : Nat → Int} {c : Nat} (h : c < n) : (intA n f)[c]? = some (.int .i64 (f c)) := by simp [intA, h]
theorem intA_set {n : Nat} {f : Nat → Int} {c : Nat} {v : Int} (h : c < n) : (intA n f).setIfInBounds c (.int .i64 v) = intA n (fun j => if j = c then v else f j) := by
 apply Array.ext_getElem?
 intro j
 rw [Array.getElem?_setIfInBounds]
 have hs : (intA n f).size = n := by simp [intA]
 rw [hs]
 by_cases hj : j < n
 ·rw [intA_get hj, intA_get hj]
  by_cases e : c = j
  ·rw [if_pos e, if_pos h, if_pos e.symm]
  ·rw [if_neg e, if_neg (fun x => e x.symm)]
 ·rw [if_neg (by omega), Array.getElem?_eq_none (by rw [hs]; omega), Array.getElem?_eq_none (by simp [intA]; omega)]
theorem replicate_ints (n : Nat) : Array.replicate n (Value.int .i64 0) = intA n (fun _ => 0) := by
 apply Array.ext_getElem?
 intro i
 by_cases h : i < n
 ·rw [intA_get h]; simp [h]
 ·rw [Array.getElem?_eq_none (by simp; omega), Array.getElem?_eq_none (by simp [intA]; omega)]
theorem make_ints (n : Nat) (hn : n ≤ 70000) (w : World) (l : Int) (hl : l = (n : Int)) :
  (Instr.makeSlice 22 (.int .i64 l) (.int .i64 l)).run Tryz.prog w = .ok (.slice (some ⟨w.heap.size, 0, none⟩) n n) (w.alloc (.cells (intA n (fun _ => 0)) 3)) := by
 subst hl
 obtain ⟨i0, hi, hz0, hz1, hz2⟩ := info_parts info_int
 have h := run_make (P := Tryz.prog) (w := w) 22 3 i0 (.int .i64 0) Tryz.underlying22 hi hz0 .i64 .i64 (n : Int) (n : Int) (by omega) (by omega) (by rw [hz2]; omega) (by omega)
 rw [h, hz1, Int.toNat_natCast, Nat.mul_one]
 show _ = _
 rw [show (Value.int .i64 0).cells = #[.int .i64 0] from rfl, madeCells_one, replicate_ints]
end Ir
end Go.Proofs.YtkbndlnmbbbohaaGreatDoor
namespace Go.Proofs.YtkbndlnmbbbohaaGreatDoor
open Go Go.RowKit
set_option maxRecDepth 100000
set_option linter.unusedVariables false
section
variable {P : Program} {a : Act}
theorem exec_slice {o : Oper} {t : TypeId} {x : Operand} {lo hi mx : Option Operand} {lo' hi' mx' : Option Value} {u v : Value} (w : World) (e : o.op = .slice t x lo hi mx) (hx : a.eval x = u) (hlo : lo.map a.eval = lo') (hhi : hi.map a.eval = hi') (hmx : mx.map a.eval = mx') (hf : (Instr.sliceAt t u lo' hi' mx').run P w = .ok v w) : (execOp a.eval o).run P w = .ok (.value v) w := by
 subst hlo hhi hmx
 unfold execOp; simp only [e, hx, hf, Sem.run_bind, Sem.run_pure, Result.andThen_ok]
theorem exec_len {o : Oper} {x : Operand} {t : TypeId} {u v : Value} (w : World) (e : o.op = .call { callee := .builtin .len, args := #[x], argTypes := #[t] }) (hx : a.eval x = u) (hf : (Builtin.len_ #[t] o.type #[u]).run P w = .ok v w) : (execOp a.eval o).run P w = .ok (.value v) w := by
 unfold execOp; simp [e, hx, hf, resolve, invoke, builtin, Sem.run_bind, Sem.run_pure, Result.andThen_ok]
theorem exec_un {o : Oper} {op : UnOp} {t : TypeId} {x : Operand} {u v : Value} (w : World) (e : o.op = .unOp op t x) (hx : a.eval x = u) (hf : (Op.unary op u).run P w = .ok v w) : (execOp a.eval o).run P w = .ok (.value v) w := by
 unfold execOp; simp only [e, hx, hf, Sem.run_bind, Sem.run_pure, Result.andThen_ok]
end
end Go.Proofs.YtkbndlnmbbbohaaGreatDoor
namespace Go.Proofs.YtkbndlnmbbbohaaGreatDoor
open Go Go.RowKit
set_option maxRecDepth 100000
set_option linter.unusedVariables false
namespace Nr
def csN (x : Nat) : List Value := [.int .i64 (x : Int)]
abbrev OwnN (w : World) (base : Nat) (v : Value) (l : List Nat) : Prop := Gr.OwnG 3 1 csN w base v l
theorem sizeOf_int (w : World) : (sizeOf 3).run Tryz.prog w = .ok 1 w := by
 obtain ⟨i0, hi, hz0, hz1, hz2⟩ : ∃ i0, Tryz.prog.info? 3 = some i0 ∧ i0.zero = some (.int .i64 0) ∧ i0.size = 1 ∧ i0.bytes = 8 := info_parts Ir.info_int
 simp [sizeOf, typeInfo, hi, hz1]
def offL (c lo : Nat) : Nat := if c = lo then 0 else lo
theorem slice_from (b n c lo : Nat) (h : lo ≤ n) (w : World) :
  (Instr.sliceAt 22 (.slice (some ⟨b, 0, none⟩) n c) (some (.int .i64 (lo : Int))) none none).run Tryz.prog w = .ok (.slice (some ⟨b, offL c lo, none⟩) (n - lo) (c - lo)) w := by
 have hu : Tryz.prog.underlying 22 = some (.slice (Tryz.prog.elem 22)) := by kernel_rfl
 have he : Tryz.prog.elem 22 = 3 := by kernel_rfl
 rw [run_sliceAt_slice (P := Tryz.prog) (w := w) (h := hu), run_slice_l (P := Tryz.prog) (w := w) 22 _ n c hu .i64 (lo : Int) (by omega) (by omega), he, sizeOf_int]
 unfold offL
 by_cases e : c = lo
 ·subst e; simp [sliced]
 ·simp [sliced, e, add_plain]
theorem bs_int (x : Int) (w : World) : (Instr.buildSlice 22 1 #[(0, .int .i64 x)]).run Tryz.prog w = .ok (.slice (some ⟨w.heap.size, 0, none⟩) 1 1) (w.alloc (.cells #[.int .i64 x] 3)) := by kernel_rfl
theorem bs_none (w : World) : (Instr.buildSlice 22 0 #[]).run Tryz.prog w = .ok (.slice (some ⟨w.heap.size, 0, none⟩) 0 0) (w.alloc (.cells #[] 3)) := by kernel_rfl
section
variable {w w' : World} {base : Nat} {v : Value} {l m : List Nat}
theorem own_shape (h : OwnN w base v l) : (v = .slice none 0 0 ∧ l = []) ∨ ∃ g c, v = .slice (some ⟨g, 0, none⟩) l.length c ∧ base ≤ g ∧ g < w.heap.size ∧ l.length ≤ c ∧ c ≤ maxLen ∧ ∀ (i x : Nat), l[i]? = some x → w.cell? ⟨g, i, none⟩ = some (.int .i64 (x : Int)) := by
 have hs := h.shape (fun _ => rfl)
 rcases h.2 with ⟨h1, h2⟩ | ⟨g, cap, cur, h1, h2, h3, h4, h5, _⟩
 ·exact .inl ⟨h1, List.eq_nil_of_length_eq_zero h2⟩
 ·obtain ⟨A, c, e1, e2, e3, e4, e5, e6⟩ := hs
  rw [h1] at e1
  injection e1 with e1 e7 e8
  subst e1 e8
  refine .inr ⟨g, cap, h1, h2, (e6 g 0 none rfl).2, h4, h5, fun i x hx => ?_⟩
  obtain ⟨b, o, f1, f2, f3⟩ := e2 i x hx
  injection f1 with f1
  injection f1 with f1 f4
  subst f1 f4
  have := f3 0 _ rfl
  rw [Nat.mul_one, Nat.zero_add, Nat.add_zero] at this
  exact this
theorem flat_csN : ∀ m : List Nat, m.flatMap csN = m.map fun x : Nat => Value.int .i64 (x : Int)
 | [] => rfl
 | x :: m => by rw [List.flatMap_cons, List.map_cons, flat_csN m]; rfl
theorem run_app (ty : TypeId) (h : OwnN w base v l) {b o n c : Nat} (hn : n = m.length) (hr : ∀ (j x : Nat), m[j]? = some x → w.cell? ⟨b, o + j, none⟩ = some (.int .i64 (x : Int))) (hl : l.length + m.length ≤ 1000000) (hb : base ≤ w.heap.size) :
  ∃ v' w', (Builtin.append_ #[22, 22] ty #[v, .slice (some ⟨b, o, none⟩) n c]).run Tryz.prog w = .ok v' w' ∧ OwnN w' base v' (l ++ m) ∧ w.grownBy w' v.ownBlock ∧ (v'.ownBlock = v.ownBlock ∨ v'.ownBlock = some w.heap.size) := by
 subst hn
 refine Gr.run_append (E := 3) (k := 1) (cs := csN) (z := .int .i64 0) (bytes := 8) (fun _ => rfl) (fun x u hu => by simp [csN] at hu; subst hu; rfl) Tryz.underlying22 Ir.info_int rfl (by omega) (by omega) ty h (ad := ⟨b, o, none⟩) (fun j u hu => ?_) (by omega) hb
 have hfm := flat_csN m
 rw [hfm, List.getElem?_map] at hu
 rw [add_plain]
 cases hx : m[j]? with
 | none => rw [hx] at hu; cases hu
 | some x => rw [hx] at hu; injection hu with hu; rw [← hu]; exact hr j x hx
end
end Nr
end Go.Proofs.YtkbndlnmbbbohaaGreatDoor
namespace Go.Proofs.YtkbndlnmbbbohaaGreatDoor
open Go Go.RowKit refRack
set_option maxRecDepth 100000
set_option linter.unusedVariables false
namespace Arr
def arrA (r f : Nat) : Array Value := #[.pointer (some ⟨r, 0, none⟩), .int .i64 (f : Int)]
structure At (B : Nat) (w : World) (a r f : Nat) (s : RS) : Prop where
 rack : RackAt B w r s
 blk : Blk w a 71 (arrA r f)
 five : 5 ≤ s.nd
 first : f < s.ns
section
variable {B a r f : Nat} {w w' : World} {s s' : RS}
theorem At.c0 (h : At B w a r f s) : w.cell? ⟨a, 0, none⟩ = some (.pointer (some ⟨r, 0, none⟩)) := h.blk.cell 0
theorem At.c1 (h : At B w a r f s) : w.cell? ⟨a, 1, none⟩ = some (.int .i64 (f : Int)) := h.blk.cell 1
theorem At.drewN (h : At B w a r f s) (n : Nat) : At B (w.drewN n) a r f s := ⟨h.rack.drewN n, h.blk.drewN n, h.five, h.first⟩
theorem At.bounds (h : At B w a r f s) : s.nd ≤ 16 ∧ s.ns ≤ 2000 := ⟨h.rack.1.nd2, h.rack.1.ns2⟩
theorem At.grown_ (h : At B w a r f s) (hk : Below w.heap.size w w') : At B w' a r f s :=
 ⟨h.rack.below hk, h.blk.below hk h.blk.lt, h.five, h.first⟩
theorem At.rack_ (h : At B w a r f s) (hr : RackAt B w' r s') (hk : Keep B w w') (e1 : s'.nd = s.nd) (e2 : s'.ns = s.ns) : At B w' a r f s' :=
 ⟨hr, hk.block h.blk rfl, by rw [e1]; exact h.five, by rw [e2]; exact h.first⟩
def cells (s : RS) (f : Nat) : Nat := s.nd * (s.ns - f)
theorem cells_le (h : At B w a r f s) : cells s f ≤ 32000 := by
 obtain ⟨h1, h2⟩ := h.bounds
 have : s.nd * (s.ns - f) ≤ 16 * 2000 := Nat.mul_le_mul h1 (by omega)
 exact this
theorem new_ok (w : World) (h : RackAt B w r s) (h5 : 5 ≤ s.nd) (hf : f < s.ns) :
  Calls Tryz.prog 8 #[.pointer (some ⟨r, 0, none⟩), .int .i64 (f : Int)] w fun e w' => e = .returned (.tuple #[.pointer (some ⟨w.heap.size, 0, none⟩), .int .i64 0]) ∧ w' = w.alloc (.cells (arrA r f) 71) ∧ At B w' w.heap.size r f s ∧ Keep B w w' := by
 have HD := Lib.hid (drives_any w r s h)
 have HS := Lib.hid (sectors_any w r s h)
 have HA : Hid (At B (w.alloc (.cells (arrA r f) 71)) w.heap.size r f s) := ⟨h.alloc _, Blk.new _ _ _, h5, hf⟩
 have HK := Lib.hid ((Keep.refl B w).alloc h.le (.cells (arrA r f) 71))
 have t1 : ((s.nd : Int) < 5) = False := by simp; omega
 have t2 : ((s.ns : Int) ≤ (f : Int)) = False := by simp; omega
 have t3 : ((f : Int) < 0) = False := by simp
 go_enter Tryz.func8, Tryz.ntmps8
 go_wp2_with fail
 refine HD.out.mono ?_
 rintro e w' ⟨rfl, rfl⟩
 go_wp2_with fail
 refine HS.out.mono ?_
 rintro e w' ⟨rfl, rfl⟩
 go_wp2_with fail
 go_ret2
 exact ⟨rfl, rfl, HA.out, HK.out⟩
theorem none_any (w : World) (h : At B w a r f s) :
  Calls Tryz.prog 26 #[.pointer (some ⟨a, 0, none⟩)] w fun e w' => e = .returned (.bool false) ∧ w' = w := by
 have c0 := h.c0
 clear h
 go_enter Tryz.func26, Tryz.ntmps26
 go_wp2_with fail
 go_ret
 exact ⟨rfl, rfl⟩
theorem parts_any (w : World) (x y : Nat) (hx : x ≤ 100000) (hy : y ≤ 100000) (h0 : 0 < y) :
  Calls Tryz.prog 35 #[.int .i64 (x : Int), .int .i64 (y : Int)] w fun e w' => e = .returned (.int .i64 (((x + y - 1) / y : Nat) : Int)) ∧ w' = w := by
 obtain ⟨z, hz⟩ : ∃ z, z = x + y - 1 := ⟨_, rfl⟩
 have hd : z / y ≤ z := Nat.div_le_self _ _
 rw [← hz]
 have e1 : wrap64 ((x : Int) + (y : Int)) = ((z + 1 : Nat) : Int) := by unfold wrap64; omega
 have e1b : (x : Int) + (y : Int) = ((z + 1 : Nat) : Int) := by omega
 have e4 : ((y : Int) = 0) = False := by simp; omega
 have e5 : Hid (wrap64 ((z : Int) / (y : Int)) = ((z / y : Nat) : Int)) := by
  show _ = _
  rw [← Int.natCast_ediv]
  generalize z / y = q at *
  unfold wrap64
  omega
 have HZ := Lib.hid hz
 clear hz hd
 go_enter Tryz.func35, Tryz.ntmps35
 go_wp2_with fail
 go_ret
 refine ⟨?_, rfl⟩
 rw [← e5.out]
 rfl
theorem width_any (w : World) (h : At B w a r f s) :
  Calls Tryz.prog 36 #[.pointer (some ⟨a, 0, none⟩)] w fun e w' => e = .returned (.int .i64 ((s.nd - 3 : Nat) : Int)) ∧ w' = w := by
 have c0 := h.c0
 have HD := Lib.hid (drives_any w r s h.rack)
 have h5 := h.five
 obtain ⟨h16, _⟩ := h.bounds
 have e1 : (s.nd : Int) - 3 = ((s.nd - 3 : Nat) : Int) := by omega
 clear h
 go_enter Tryz.func36, Tryz.ntmps36
 go_wp2_with fail
 refine HD.out.mono ?_
 rintro e w' ⟨rfl, rfl⟩
 go_wp2_with fail
 go_ret
 exact ⟨rfl, rfl⟩
theorem drive_any (w : World) (h : At B w a r f s) (c : Nat) (hc : c ≤ 100000) :
  Calls Tryz.prog 60 #[.pointer (some ⟨a, 0, none⟩), .int .i64 (c : Int)] w fun e w' => e = .returned (.int .i64 ((c % s.nd : Nat) : Int)) ∧ w' = w := by
 have c0 := h.c0
 have HD := Lib.hid (drives_any w r s h.rack)
 have h5 := h.five
 obtain ⟨h16, _⟩ := h.bounds
 have e4 : ((s.nd : Int) = 0) = False := by simp; omega
 have hm : c % s.nd < s.nd := Nat.mod_lt _ (by omega)
 have e1 : IntKind.i64.wrap ((c : Int).tmod (s.nd : Int)) = ((c % s.nd : Nat) : Int) := by
  rw [Int.tmod_eq_emod_of_nonneg (by omega), ← Int.natCast_emod, IntKind.wrap_i64]
  omega
 have HE := Lib.hid e1
 clear h e1
 go_enter Tryz.func60, Tryz.ntmps60
 go_wp2_with fail
 refine HD.out.mono ?_
 rintro e w' ⟨rfl, rfl⟩
 go_wp2_with fail
 go_ret
 exact ⟨rfl, rfl⟩
end
end Arr
end Go.Proofs.YtkbndlnmbbbohaaGreatDoor
namespace Go.Proofs.YtkbndlnmbbbohaaGreatDoor
open Go Go.RowKit refRack
set_option maxRecDepth 100000
set_option linter.unusedVariables false
namespace Arr
section
variable {B a r f : Nat} {w w' : World} {s s' : RS}
set_option maxHeartbeats 800000 in
theorem cells_any (w : World) (h : At B w a r f s) :
  Calls Tryz.prog 10 #[.pointer (some ⟨a, 0, none⟩)] w fun e w' => e = .returned (.int .i64 ((cells s f : Nat) : Int)) ∧ ∃ d, w' = w.drewN d := by
 have c0 := h.c0
 have c1 := h.c1
 have HN := Lib.hid (none_any w h)
 have HD := Lib.hid (fun n => drives_any (w.drewN n) r s (h.rack.drewN n))
 have HS := Lib.hid (fun n => sectors_any (w.drewN n) r s (h.rack.drewN n))
 have hf := h.first
 obtain ⟨h16, h2k⟩ := h.bounds
 have hle := cells_le h
 have e2 : wrap64 ((s.nd : Int) * ((s.ns - f : Nat) : Int)) = ((cells s f : Nat) : Int) := by
  unfold cells at hle ⊢
  rw [← Int.natCast_mul]
  generalize s.nd * (s.ns - f) = y at *
  unfold wrap64
  omega
 have HE := Lib.hid e2
 have e3 : (s.ns : Int) - (f : Int) = ((s.ns - f : Nat) : Int) := by omega
 generalize hm : s.ns - f = m at *
 have hm' := Lib.hid hm
 clear h e2 hm
 go_enter Tryz.func10, Tryz.ntmps10
 go_wp2_with fail
 refine HN.out.mono ?_
 rintro e w' ⟨rfl, rfl⟩
 go_wp2_with fail
 go_quiet (first | (go_at_call 23; exact Calls.quiet_of_same (HD.out _)) | (go_at_call 24; exact Calls.quiet_of_same (HS.out _)))
 go_wp2_with fail
 go_ret
 refine ⟨?_, _, rfl⟩
 rw [← HE.out]
 rfl
theorem cost_ok (w : World) (h : At B w a r f s) (n : Nat) (h1 : 1 ≤ n) (hn : n ≤ 1024) :
  Calls Tryz.prog 12 #[.pointer (some ⟨a, 0, none⟩), .int .i64 (n : Int)] w fun e w' => e = .returned (.tuple #[.int .i64 ((cost s.nd n : Nat) : Int), .int .i64 0]) ∧ w' = w := by
 have HN := Lib.hid (none_any w h)
 have HW := Lib.hid (width_any w h)
 have h5 := h.five
 obtain ⟨h16, _⟩ := h.bounds
 have hs := secs_le hn
 have hr := rws_le h5 (secs_pos h1)
 have HP1 := Lib.hid (parts_any w n 128 (by omega) (by omega) (by omega))
 have HP2 := Lib.hid (parts_any w (secs n) (s.nd - 3) (by omega) (by omega) (by omega))
 have e0 : (n + 128 - 1) / 128 = secs n := by unfold secs; omega
 rw [e0] at HP1
 have e1 : (secs n + (s.nd - 3) - 1) / (s.nd - 3) = rws s.nd (secs n) := rfl
 rw [e1] at HP2
 have e2 : cost s.nd n = secs n + 3 * rws s.nd (secs n) := rfl
 rw [e2]
 have t1 : ((n : Int) < 1) = False := by simp; omega
 have t2 : ((1024 : Int) < (n : Int)) = False := by simp; omega
 generalize rws s.nd (secs n) = R at *
 generalize secs n = d at *
 clear h e1 e2 e0
 go_enter Tryz.func12, Tryz.ntmps12
 go_wp2_with fail
 refine HN.out.mono ?_
 rintro e w' ⟨rfl, rfl⟩
 go_wp2_with fail
 refine HP1.out.mono ?_
 rintro e w' ⟨rfl, rfl⟩
 go_wp2_with fail
 refine HW.out.mono ?_
 rintro e w' ⟨rfl, rfl⟩
 go_wp2_with fail
 refine HP2.out.mono ?_
 rintro e w' ⟨rfl, rfl⟩
 go_wp2_with fail
 go_ret2
 refine ⟨?_, rfl⟩
 first | rfl | (congr 3 <;> omega)
theorem span_ok (w : World) (h : At B w a r f s) (ad n : Nat) (h1 : 1 ≤ n) (hn : n ≤ 1024) (hc : ad + cost s.nd n ≤ cells s f) :
  Calls Tryz.prog 98 #[.pointer (some ⟨a, 0, none⟩), .int .i64 (ad : Int), .int .i64 (n : Int)] w fun e w' => e = .returned (.tuple #[.int .i64 ((cost s.nd n : Nat) : Int), .int .i64 0]) ∧ ∃ d, w' = w.drewN d := by
 have HC := Lib.hid (cost_ok w h n h1 hn)
 have HL := Lib.hid (cells_any w h)
 have hle := cells_le h
 have t1 : ((ad : Int) < 0) = False := by simp
 have t2 : ((cells s f : Int) - (cost s.nd n : Int) < (ad : Int)) = False := by simp; omega
 have e1 : IntKind.i64.wrap ((cells s f : Int) - (cost s.nd n : Int)) = (cells s f : Int) - (cost s.nd n : Int) := by rw [IntKind.wrap_i64]; omega
 generalize cells s f = C at *
 generalize cost s.nd n = c at *
 clear h
 go_enter Tryz.func98, Tryz.ntmps98
 go_wp2_with fail
 refine HC.out.mono ?_
 rintro e w' ⟨rfl, rfl⟩
 go_wp2_with fail
 refine HL.out.mono ?_
 rintro e w' ⟨rfl, d, rfl⟩
 go_wp2_with fail
 go_ret2
 exact ⟨rfl, d, rfl⟩
set_option maxHeartbeats 800000 in
theorem sector_any (w : World) (h : At B w a r f s) (c : Nat) (hc : c ≤ 100000) :
  Calls Tryz.prog 103 #[.pointer (some ⟨a, 0, none⟩), .int .i64 (c : Int)] w fun e w' => e = .returned (.int .i64 ((f + c / s.nd : Nat) : Int)) ∧ ∃ d, w' = w.drewN d := by
 have c0 := h.c0
 have c1 := h.c1
 have HD := Lib.hid (fun n => drives_any (w.drewN n) r s (h.rack.drewN n))
 have h5 := h.five
 have hf := h.first
 obtain ⟨h16, h2k⟩ := h.bounds
 have e4 : ((s.nd : Int) = 0) = False := by simp; omega
 have hd : c / s.nd ≤ c := Nat.div_le_self _ _
 have e1 : wrap64 ((c : Int) / (s.nd : Int)) = ((c / s.nd : Nat) : Int) := by
  rw [← Int.natCast_ediv]
  generalize c / s.nd = q at *
  unfold wrap64
  omega
 generalize hq : c / s.nd = q at *
 have HQ := Lib.hid hq
 clear h hq
 go_enter Tryz.func103, Tryz.ntmps103
 go_wp2_with fail
 go_quiet ((go_at_call 23; exact Calls.quiet_of_same (HD.out _)))
 go_wp2_with fail
 go_ret
 refine ⟨?_, _, rfl⟩
 rfl
end
end Arr
end Go.Proofs.YtkbndlnmbbbohaaGreatDoor
