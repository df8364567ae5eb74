/-
  The document's answer for sums, as plain mathematics: primes, roots, the message with what stands behind. No conditions.
-/
import Derived.Test.YthioanenljpclaaGreatDoorShaSpreadM
import Derived.Test.YthioanenljpclaaGreatDoorOwn8
namespace Go.Proofs.YthioanenljpclaaGreatDoor.M
set_option maxRecDepth 100000
set_option linter.unusedVariables false

/-! ### primes -/
def plStep (p : Nat) (l : List Nat) : List Nat := if l.all (fun q => p % q != 0) then l ++ [p] else l
/-- the primes from 2 to 2 + k, k excluded -/
def plTo : Nat → List Nat
  | 0 => []
  | k + 1 => plStep (2 + k) (plTo k)
def primes64 : List Nat := [2, 3, 5, 7, 11, 13, 17, 19, 23, 29, 31, 37, 41, 43, 47, 53, 59, 61, 67, 71, 73, 79, 83, 89, 97, 101, 103, 107, 109, 113, 127, 131, 137, 139, 149, 151, 157, 163, 167, 173, 179, 181, 191, 193, 197, 199, 211, 223, 227, 229, 233, 239, 241, 251, 257, 263, 269, 271, 277, 281, 283, 293, 307, 311]
theorem pl_all : plTo 310 = primes64 := by decide +kernel
theorem plStep_prefix (p : Nat) (l : List Nat) : l <+: plStep p l := by
  unfold plStep
  split
  · exact List.prefix_append _ _
  · exact List.prefix_refl _
theorem plTo_prefix (k : Nat) : ∀ j, plTo k <+: plTo (k + j)
  | 0 => List.prefix_refl _
  | j + 1 => (plTo_prefix k j).trans (plStep_prefix _ _)
theorem plTo_two : ∀ k, ∀ q ∈ plTo k, 2 ≤ q
  | 0, q, h => by cases h
  | k + 1, q, h => by
    have h1 : q ∈ plStep (2 + k) (plTo k) := h
    unfold plStep at h1
    split at h1
    · rcases List.mem_append.1 h1 with h2 | h2
      · exact plTo_two k q h2
      · simp at h2; omega
    · exact plTo_two k q h1
theorem plTo_lt : ∀ k, ∀ q ∈ plTo k, q < 2 + k
  | 0, q, h => by cases h
  | k + 1, q, h => by
    have h1 : q ∈ plStep (2 + k) (plTo k) := h
    unfold plStep at h1
    split at h1
    · rcases List.mem_append.1 h1 with h2 | h2
      · have := plTo_lt k q h2; omega
      · simp at h2; omega
    · have := plTo_lt k q h1; omega
/-- fewer than 64 of them: not all have been looked at -/
theorem pl_short (k : Nat) (h : (plTo k).length < 64) : k < 310 := by
  rcases Nat.lt_or_ge k 310 with h1 | h1
  · exact h1
  · have h2 := (plTo_prefix 310 (k - 310)).length_le
    rw [show 310 + (k - 310) = k by omega, pl_all] at h2
    have : primes64.length = 64 := rfl
    omega
theorem pl_done (k : Nat) (hk : k ≤ 310) (h : 64 ≤ (plTo k).length) : plTo k = primes64 := by
  have h1 := plTo_prefix k (310 - k)
  rw [show k + (310 - k) = 310 by omega, pl_all] at h1
  exact h1.eq_of_length_le (by have : primes64.length = 64 := rfl; omega)

/-! ### roots -/
def squareB (x p : Nat) : Bool := decide (x * x / 18446744073709551616 < p) || (decide (x * x / 18446744073709551616 = p) && decide (x * x % 18446744073709551616 = 0))
def cubeT (x : Nat) : Nat := x * x / 18446744073709551616 * x + x * x % 18446744073709551616 * x / 18446744073709551616
def cubeB (x p : Nat) : Bool := decide (cubeT x < p * 4294967296) || (decide (cubeT x = p * 4294967296) && decide (x * x % 18446744073709551616 * x % 18446744073709551616 = 0))
def takes (p : Nat) (third : Bool) (k y : Nat) : Bool := if third then decide (k < 36) && cubeB y p else squareB y p
def rootStep (p : Nat) (third : Bool) (k x : Nat) : Nat := if takes p third k (x + 2 ^ k) then x + 2 ^ k else x
/-- behind j steps -/
def rootTo (p : Nat) (third : Bool) : Nat → Nat
  | 0 => 0
  | j + 1 => rootStep p third (37 - j) (rootTo p third j)
theorem rootTo_lt (p : Nat) (third : Bool) : ∀ j, j ≤ 38 → rootTo p third j + 2 ^ (38 - j) ≤ 2 ^ 38
  | 0, _ => by show 0 + _ ≤ _; omega
  | j + 1, h => by
    have ih := rootTo_lt p third j (by omega)
    have e : 2 ^ (38 - j) = 2 ^ (37 - j) + 2 ^ (37 - j) := by rw [show 38 - j = 37 - j + 1 by omega, Nat.pow_succ]; omega
    rw [show 38 - (j + 1) = 37 - j by omega]
    show rootStep p third (37 - j) (rootTo p third j) + _ ≤ _
    unfold rootStep
    generalize 2 ^ (37 - j) = c at *
    split <;> omega
/-- the same, reckoned out step by step -/
def rootF (p : Nat) (third : Bool) : List Nat → Nat → Nat
  | [], x => x
  | k :: ks, x => force (x + 2 ^ k) fun y => force x fun x => bif takes p third k y then rootF p third ks y else rootF p third ks x
theorem rootF_eq (p : Nat) (third : Bool) : ∀ (ks : List Nat) (x : Nat), rootF p third ks x = ks.foldl (fun x k => rootStep p third k x) x
  | [], x => rfl
  | k :: ks, x => by
    rw [rootF, force_eq, force_eq, List.foldl_cons, rootF_eq p third ks, rootF_eq p third ks]
    unfold rootStep
    cases takes p third k (x + 2 ^ k) <;> rfl
theorem rootTo_fold (p : Nat) (third : Bool) : ∀ j, rootTo p third j = ((List.range j).map fun j => 37 - j).foldl (fun x k => rootStep p third k x) 0
  | 0 => rfl
  | j + 1 => by
    rw [List.range_succ, List.map_append, List.foldl_append, ← rootTo_fold p third j]
    rfl
def steps : List Nat := [37, 36, 35, 34, 33, 32, 31, 30, 29, 28, 27, 26, 25, 24, 23, 22, 21, 20, 19, 18, 17, 16, 15, 14, 13, 12, 11, 10, 9, 8, 7, 6, 5, 4, 3, 2, 1, 0]
theorem steps_are : ((List.range 38).map fun j => 37 - j) = steps := by decide +kernel
theorem rootTo_F (p : Nat) (third : Bool) : rootTo p third 38 = rootF p third steps 0 := by rw [rootTo_fold, steps_are, rootF_eq]
theorem roots_F : primes64.map (fun p => rootF p true steps 0 % 4294967296) = roots := by decide +kernel
theorem init_F : (primes64.take 8).map (fun p => rootF p false steps 0 % 4294967296) = [1779033703, 3144134277, 1013904242, 2773480762, 1359893119, 2600822924, 528734635, 1541459225] := by decide +kernel
theorem primes64_get (i : Nat) (h : i < 64) : primes64[i]? = some (primes64.getD i 0) := by
  have hl : primes64.length = 64 := rfl
  rw [List.getD_eq_getElem?_getD, List.getElem?_eq_getElem (by omega)]
  rfl
theorem root_rt (i : Nat) (h : i < 64) : rootTo (primes64.getD i 0) true 38 % 4294967296 = rt i := by
  unfold rt
  have hg := primes64_get i h
  generalize primes64.getD i 0 = p at *
  rw [← roots_F, List.getD_eq_getElem?_getD, List.getElem?_map, hg, rootTo_F, Option.map_some, Option.getD_some]
theorem root_init (i : Nat) (h : i < 8) : rootTo (primes64.getD i 0) false 38 % 4294967296 = init.get i := by
  have e : init.get i = [1779033703, 3144134277, 1013904242, 2773480762, 1359893119, 2600822924, 528734635, 1541459225].getD i 0 := by
    rcases i with _ | _ | _ | _ | _ | _ | _ | _ | i <;> first | rfl | omega
  have hg := primes64_get i (by omega)
  generalize primes64.getD i 0 = p at *
  rw [e, ← init_F, List.getD_eq_getElem?_getD, List.getElem?_map, List.getElem?_take_of_lt h, hg, rootTo_F, Option.map_some, Option.getD_some]

/-! ### turns, in 64 bits -/
theorem ror_wide (x n : Nat) (hx : x < 4294967296) (hn : n < 32) : ((x >>> n) ||| (x <<< (32 - n))) % 4294967296 = ror x n := by
  unfold ror
  have h1 : (x >>> n) < 4294967296 := Nat.lt_of_le_of_lt (shr_le x n) hx
  rw [show (4294967296 : Nat) = 2 ^ 32 from rfl, Nat.or_mod_two_pow, Nat.or_comm, Nat.mod_eq_of_lt (a := x >>> n) (by simpa using h1)]

/-! ### the message -/
def msgN (n : Nat) : Nat := n / 64 * 64 + restN n
def msg (n : Nat) (X : Nat → Nat) (j : Nat) : Nat := if j < n / 64 * 64 then X j else rest n X (j - n / 64 * 64)
theorem msgN_div (n : Nat) : msgN n / 64 = n / 64 + restN n / 64 := by
  unfold msgN restN
  split <;> omega
theorem sumS_msg (n : Nat) (X : Nat → Nat) : addB init (msg n X) (msgN n / 64) = sumS n X := by
  rw [msgN_div, addB_add]
  unfold sumS
  rw [addB_congr init (n / 64) (Y := X) fun j hj => by unfold msg; rw [if_pos (by omega)]]
  exact addB_congr _ _ fun j _ => by
    show msg n X (64 * (n / 64) + j) = _
    unfold msg
    rw [if_neg (by omega), show 64 * (n / 64) + j - n / 64 * 64 = j by omega]
end Go.Proofs.YthioanenljpclaaGreatDoor.M
namespace Go.Proofs.YthioanenljpclaaGreatDoor
set_option maxRecDepth 100000
open Go Go.RowKit Go.Lib
set_option linter.unusedVariables false

def numsL (n : Nat) (X : Nat → Nat) : List Value := (List.range n).map fun j => Value.int .u64 ((X j : Nat) : Int)
theorem numsL_length (n : Nat) (X : Nat → Nat) : (numsL n X).length = n := by simp [numsL]
theorem numsL_get {n j : Nat} (X : Nat → Nat) (h : j < n) : (numsL n X)[j]? = some (.int .u64 ((X j : Nat) : Int)) := by simp [numsL, h]
theorem numsL_congr {n : Nat} {X Y : Nat → Nat} (h : ∀ j, j < n → X j = Y j) : numsL n X = numsL n Y := by
  unfold numsL
  apply List.map_congr_left
  intro j hj
  rw [h j (by simpa using hj)]
theorem numsL_cat (n m : Nat) (X Y : Nat → Nat) : numsL n X ++ numsL m Y = numsL (n + m) (cat n X Y) := by
  apply List.ext_getElem?
  intro j
  by_cases h : j < n
  · rw [List.getElem?_append_left (by rw [numsL_length]; exact h), numsL_get X h, numsL_get _ (by omega)]
    unfold cat
    rw [if_pos h]
  · rw [List.getElem?_append_right (by rw [numsL_length]; omega), numsL_length]
    by_cases h2 : j < n + m
    · rw [numsL_get Y (by omega), numsL_get _ h2]
      unfold cat
      rw [if_neg h]
    · rw [List.getElem?_eq_none (by rw [numsL_length]; omega), List.getElem?_eq_none (by rw [numsL_length]; omega)]
/-- the call's own row of n numbers -/
def Own64 (w : World) (base : Nat) (v : Value) (n : Nat) (X : Nat → Nat) : Prop := w.ownsRow base 24 1 v n (numsL n X)
theorem Own64.nil (w : World) (base : Nat) (X : Nat → Nat) : Own64 w base (.slice none 0 0) 0 X := World.ownsRow_nil w base 24 1
theorem Own64.congr {w : World} {base n : Nat} {v : Value} {X Y : Nat → Nat} (h : Own64 w base v n X) (e : ∀ j, j < n → X j = Y j) : Own64 w base v n Y := by
  unfold Own64
  rw [← numsL_congr e]
  exact h
theorem Own64.keep {w w' : World} {base n : Nat} {v : Value} {X : Nat → Nat} (h : Own64 w base v n X) (hk : ∀ g, v.ownBlock = some g → w'.heap[g]? = w.heap[g]?) : Own64 w' base v n X := by
  rcases h with ⟨h1, h2⟩
  refine ⟨h1, ?_⟩
  rcases h2 with h2 | ⟨g, cap, cur, rfl, hg, hb, h3⟩
  · exact .inl h2
  · exact .inr ⟨g, cap, cur, rfl, hg, (hk g rfl).trans hb, h3⟩
theorem Own64.lt {w : World} {base n g : Nat} {v : Value} {X : Nat → Nat} (h : Own64 w base v n X) (hg : v.ownBlock = some g) : g < w.heap.size ∧ base ≤ g := by
  rcases h.2 with ⟨rfl, _⟩ | ⟨g', cap, cur, rfl, hb, hblk, _⟩
  · simp [Value.ownBlock] at hg
  · simp [Value.ownBlock] at hg
    subst hg
    exact ⟨Blk.lt (t := 24) (cs := cur) hblk, hb⟩
theorem Own64.below {w w' : World} {base n B : Nat} {v : Value} {X : Nat → Nat} (h : Own64 w base v n X) (hk : Below B w w') (hB : w.heap.size ≤ B) : Own64 w' base v n X :=
  h.keep fun g hg => hk.block g (by have := (h.lt hg).1; omega)
theorem Own64.drewN {w : World} {base n : Nat} {v : Value} {X : Nat → Nat} (h : Own64 w base v n X) (k : Nat) : Own64 (w.drewN k) base v n X := h
theorem Own64.alloc {w : World} {base n : Nat} {v : Value} {X : Nat → Nat} (h : Own64 w base v n X) (o : Obj) : Own64 (w.alloc o) base v n X := h.keep fun g hg => Below.heap_alloc w o g (h.lt hg).1
/-- a row that is not empty: its block, its cells -/
theorem Own64.row {w : World} {base n : Nat} {v : Value} {X : Nat → Nat} (h : Own64 w base v n X) (hn : 0 < n) : ∃ g c cs, v = .slice (some ⟨g, 0, none⟩) n c ∧ base ≤ g ∧ Blk w g 24 cs ∧ n ≤ c ∧ c ≤ maxLen ∧ ∀ j, j < n → cs[j]? = some (.int .u64 ((X j : Nat) : Int)) := by
  rcases h.2 with ⟨rfl, rfl⟩ | ⟨g, cap, cur, rfl, hg, hb, h1, h2, h3, h4⟩
  · omega
  · refine ⟨g, cap, cur, rfl, hg, hb, h1, h2, fun j hj => ?_⟩
    have h5 := numsL_get X hj
    rw [← h4, List.getElem?_take_of_lt (by omega), Array.getElem?_toList] at h5
    exact h5
theorem Own64.shape {w : World} {base n : Nat} {v : Value} {X : Nat → Nat} (h : Own64 w base v n X) : ∃ A c, v = .slice A n c ∧ n ≤ c ∧ c ≤ maxLen := by
  rcases h.2 with ⟨rfl, rfl⟩ | ⟨g, cap, cur, rfl, hg, hb, h1, h2, h3, h4⟩
  · exact ⟨none, 0, rfl, Nat.le_refl _, by simp [maxLen]⟩
  · exact ⟨_, cap, rfl, h1, h2⟩
theorem info64 : (Tryz.prog.info? 24).map (fun i => (i.zero, i.size, i.bytes)) = some (some (.int .u64 0), 1, 8) := by kernel_rfl
/-- 'append(v, x)' -/
theorem wpList_push64 {w0 : World} {ops : Array Oper} {rest : List Oper} {o : Oper} {a : Act} {Q : Exit → Act → World → Prop} (hgd : o.guard = none) (s x : Operand)
    (ho : o.op = .call { callee := .builtin .append, args := #[s, x], argTypes := #[125, 125] }) {base n y : Nat} {v : Value} {X : Nat → Nat} (hs : a.eval s = v) (hx : a.eval x = .slice (some ⟨w0.heap.size, 0, none⟩) 1 1)
    (hown : Own64 w0 base v n X) (hl : n ≤ 1099511627776) (hb : base ≤ w0.heap.size)
    (h : ∀ v' w', Own64 w' base v' (n + 1) (upd X n y) → (w0.alloc (.cells #[.int .u64 ((y : Nat) : Int)] 24)).grownBy w' v.ownBlock → (v'.ownBlock = v.ownBlock ∨ v'.ownBlock = some (w0.heap.size + 1)) → wpList Tryz.prog ops Q rest (a.put o.dst v') w') :
    wpList Tryz.prog ops Q (o :: rest) a (w0.alloc (.cells #[.int .u64 ((y : Nat) : Int)] 24)) := by
  obtain ⟨i0, hi, hz0, hz1, hz2⟩ := info_parts info64
  refine wpList_plain hgd fun K hK => ?_
  obtain ⟨v', w', hrun, e2, e3, e4, e5⟩ := run_append_own_at (P := Tryz.prog) (w0.alloc (.cells #[.int .u64 ((y : Nat) : Int)] 24)) base 125 o.type 24 i0 (.int .u64 0) 1 8 Tryz.underlying125 hi hz0 hz1 hz2 rfl (by decide) v n _ (hown.alloc _) ⟨w0.heap.size, 0, none⟩ 1 1 [.int .u64 ((y : Nat) : Int)] rfl
    (fun j u hj => by
      have hj0 : j = 0 := by
        rcases j with _ | j
        · rfl
        · simp at hj
      subst hj0
      simp at hj
      subst hj
      rw [add_plain, (Blk.new w0 24 #[.int .u64 ((y : Nat) : Int)]).cell]
      rfl) (fun u hu => by simp at hu; subst hu; rfl) (by simp only [maxLen]; omega) (by omega) (by simp; omega)
  have e6 : numsL n X ++ [.int .u64 ((y : Nat) : Int)] = numsL (n + 1) (upd X n y) := by
    have h1 := numsL_cat n 1 X (fun _ => y)
    have h2 : numsL 1 (fun _ => y) = [.int .u64 ((y : Nat) : Int)] := rfl
    rw [h2] at h1
    rw [h1]
    exact numsL_congr fun j hj => by
      unfold cat upd
      by_cases hjn : j < n
      · rw [if_pos hjn, if_neg (by omega)]
      · rw [if_neg hjn, if_pos (by omega)]
  rw [e6] at e2
  unfold Oper.wp execOp
  simp only [ho, resolve, invoke, builtin, Sem.run_bind, Sem.run_pure, Result.andThen_ok, List.map_toArray, List.map_cons, List.map_nil, hs, hx, hrun]
  exact hK _ _ (h v' w' e2 e3 (by simpa using e5))
theorem own64_grown {w0 w w' : World} {base n : Nat} {v : Value} {X : Nat → Nat} (hb : Below base w0 w) (ho : Own64 w base v n X) (o : Obj) (hg : (w.alloc o).grownBy w' v.ownBlock) (hs : base ≤ w.heap.size) : Below base w0 w' :=
  (hb.alloc hs o).trans ⟨hg.os, hg.tape, hg.output, hg.size, fun k hk => hg.block k (by simp; omega) (fun e => by have := (ho.lt e.symm).2; omega)⟩
/-- n numbers at the head of block g -/
def RowN (w : World) (g n : Nat) (X : Nat → Nat) : Prop := ∃ cs, Blk w g 24 cs ∧ ∀ j, j < n → cs[j]? = some (.int .u64 ((X j : Nat) : Int))
section
variable {w w' : World} {g n : Nat} {X : Nat → Nat}
theorem RowN.lt (h : RowN w g n X) : g < w.heap.size := by obtain ⟨cs, hb, _⟩ := h; exact hb.lt
theorem RowN.cell (h : RowN w g n X) {j : Nat} (hj : j < n) : w.cell? ⟨g, j, none⟩ = some (.int .u64 ((X j : Nat) : Int)) := by
  obtain ⟨cs, hb, hc⟩ := h
  rw [hb.cell]
  exact hc j hj
theorem RowN.frozen (h : RowN w g n X) (j : Nat) : w.frozen? ⟨g, j, none⟩ = false := by obtain ⟨cs, hb, _⟩ := h; exact hb.frozen j
theorem RowN.heap (h : RowN w g n X) (e : w'.heap[g]? = w.heap[g]?) : RowN w' g n X := by
  obtain ⟨cs, hb, hc⟩ := h
  exact ⟨cs, e.trans hb, hc⟩
theorem RowN.set (h : RowN w g n X) {k v : Nat} (hk : k < n) : RowN (w.setCell ⟨g, k, none⟩ (.int .u64 ((v : Nat) : Int))) g n (upd X k v) := by
  obtain ⟨cs, hb, hc⟩ := h
  refine ⟨_, hb.set_ k _, fun j hj => ?_⟩
  have hk' := (Array.getElem?_eq_some_iff.1 (hc k hk)).1
  rw [Array.getElem?_setIfInBounds]
  unfold upd
  by_cases e : k = j
  · rw [if_pos e, if_pos hk', if_pos e.symm]
  · rw [if_neg e, if_neg (fun x => e x.symm)]
    exact hc j hj
theorem RowN.congr {Y : Nat → Nat} (h : RowN w g n X) (e : ∀ j, j < n → X j = Y j) : RowN w g n Y := by
  obtain ⟨cs, hb, hc⟩ := h
  exact ⟨cs, hb, fun j hj => by rw [← e j hj]; exact hc j hj⟩
theorem RowN.below {B : Nat} (h : RowN w g n X) (hb : Below B w w') (hg : g < B) : RowN w' g n X := h.heap (hb.block g hg)
theorem RowN.new_ (h : RowN w g n X) (hb : Below w.heap.size w w') : RowN w' g n X := h.below hb h.lt
theorem RowN.only {b : Nat} (h : RowN w g n X) (hb : Only b w w') (hg : g ≠ b) : RowN w' g n X := h.heap (hb.block g h.lt (fun e => hg (by injection e)))
theorem RowN.drewN (h : RowN w g n X) (k : Nat) : RowN (w.drewN k) g n X := h
theorem RowN.alloc (h : RowN w g n X) (o : Obj) : RowN (w.alloc o) g n X := h.heap (Below.heap_alloc w o g h.lt)
end
theorem Own64.rowN {w : World} {base n : Nat} {v : Value} {X : Nat → Nat} (h : Own64 w base v n X) (hn : 0 < n) : ∃ g c, v = .slice (some ⟨g, 0, none⟩) n c ∧ base ≤ g ∧ RowN w g n X ∧ n ≤ c ∧ c ≤ maxLen := by
  obtain ⟨g, c, cs, e, hg, hb, h1, h2, h3⟩ := h.row hn
  exact ⟨g, c, e, hg, ⟨cs, hb, h3⟩, h1, h2⟩
theorem Own64.base {w : World} {base base' n : Nat} {v : Value} {X : Nat → Nat} (h : Own64 w base v n X) (hb : base' ≤ base) : Own64 w base' v n X := by
  rcases h with ⟨h1, h2⟩
  refine ⟨h1, ?_⟩
  rcases h2 with h2 | ⟨g, cap, cur, e, hg, h3⟩
  · exact .inl h2
  · exact .inr ⟨g, cap, cur, e, Nat.le_trans hb hg, h3⟩
/-- a row that the call has just laid -/
theorem Own64.lit {w : World} {cs : Array Value} {n : Nat} {X : Nat → Nat} (hs : cs = (numsL n X).toArray) (hn : n ≤ maxLen) : Own64 (w.alloc (.cells cs 24)) w.heap.size (.slice (some ⟨w.heap.size, 0, none⟩) n n) n X := by
  subst hs
  have h := World.ownsRow_lit (base := w.heap.size) (e := 24) (size := 1) w (numsL n X).toArray n (Nat.le_refl _) hn (by simp [numsL_length])
  rw [List.toList_toArray] at h
  exact h
/-- 'append(v, y...)' -/
theorem wpList_append64 {w : World} {ops : Array Oper} {rest : List Oper} {o : Oper} {a : Act} {Q : Exit → Act → World → Prop} (hgd : o.guard = none) (s x : Operand)
    (ho : o.op = .call { callee := .builtin .append, args := #[s, x], argTypes := #[125, 125] }) {base n m c g : Nat} {v : Value} {X Y : Nat → Nat} (hs : a.eval s = v) (hx : a.eval x = .slice (some ⟨g, 0, none⟩) m c)
    (hown : Own64 w base v n X) (hy : RowN w g m Y) (hl : n + m ≤ 1099511627776) (hb : base ≤ w.heap.size)
    (h : ∀ v' w', Own64 w' base v' (n + m) (cat n X Y) → w.grownBy w' v.ownBlock → (v'.ownBlock = v.ownBlock ∨ v'.ownBlock = some w.heap.size) → wpList Tryz.prog ops Q rest (a.put o.dst v') w') :
    wpList Tryz.prog ops Q (o :: rest) a w := by
  obtain ⟨i0, hi, hz0, hz1, hz2⟩ := info_parts info64
  refine wpList_plain hgd fun K hK => ?_
  obtain ⟨v', w', hrun, e2, e3, e4, e5⟩ := run_append_own_at (P := Tryz.prog) w base 125 o.type 24 i0 (.int .u64 0) 1 8 Tryz.underlying125 hi hz0 hz1 hz2 rfl (by decide) v n _ hown ⟨g, 0, none⟩ m c (numsL m Y) (by rw [numsL_length, Nat.mul_one])
    (fun j u hj => by
      have hjm : j < m := by have := (List.getElem?_eq_some_iff.1 hj).1; rw [numsL_length] at this; exact this
      rw [numsL_get Y hjm] at hj
      injection hj with hj
      subst hj
      rw [add_plain, Nat.zero_add]
      exact hy.cell hjm) (fun u hu => by
      simp only [numsL, List.mem_map] at hu
      obtain ⟨j, _, rfl⟩ := hu
      rfl) (by simp only [maxLen]; omega) (by omega) hb
  rw [numsL_cat] at e2
  unfold Oper.wp execOp
  simp only [ho, resolve, invoke, builtin, Sem.run_bind, Sem.run_pure, Result.andThen_ok, List.map_toArray, List.map_cons, List.map_nil, hs, hx, hrun]
  exact hK _ _ (h v' w' e2 e3 e5)
theorem own64_grown' {w0 w w' : World} {base n : Nat} {v : Value} {X : Nat → Nat} (hb : Below base w0 w) (ho : Own64 w base v n X) (hg : w.grownBy w' v.ownBlock) (hs : base ≤ w.heap.size) : Below base w0 w' :=
  hb.trans ⟨hg.os, hg.tape, hg.output, hg.size, fun k hk => hg.block k (by omega) (fun e => by have := (ho.lt e.symm).2; omega)⟩
end Go.Proofs.YthioanenljpclaaGreatDoor
