/-
  Records as bytes, as plain mathematics: counts, numbers, items, lists. No conditions beyond those that each theorem types.
-/
import Derived.KernelRfl
namespace Go.Proofs.YthioanenljpclaaGreatDoor.K
set_option maxRecDepth 100000
set_option linter.unusedVariables false

/-- a count as bytes -/
def cnt (c : Nat) : List Nat := if h : c < 128 then [c] else (128 + c % 128) :: cnt (c / 128)
termination_by c
decreasing_by omega
theorem cnt_small {c : Nat} (h : c < 128) : cnt c = [c] := by rw [cnt]; simp [h]
theorem cnt_big {c : Nat} (h : 128 ≤ c) : cnt c = (128 + c % 128) :: cnt (c / 128) := by rw [cnt]; simp [show ¬ c < 128 by omega]
theorem cnt_lt (c : Nat) : ∀ x ∈ cnt c, x < 256 := by
  induction c using Nat.strongRecOn with
  | ind c ih =>
    by_cases h : c < 128
    · rw [cnt_small h]; intro x hx; simp at hx; omega
    · rw [cnt_big (by omega)]; intro x hx
      rcases List.mem_cons.1 hx with rfl | hx
      · omega
      · exact ih (c / 128) (by omega) x hx
/-- the steps till nothing is left -/
def stp (m : Nat) : Nat := if h : m = 0 then 0 else stp (m / 128) + 1
termination_by m
decreasing_by omega
theorem stp_zero : stp 0 = 0 := by rw [stp]; simp
theorem stp_pos {m : Nat} (h : 0 < m) : stp m = stp (m / 128) + 1 := by rw [stp]; simp [show ¬ m = 0 by omega]
theorem cnt_length (c : Nat) : (cnt c).length = stp (c / 128) + 1 := by
  induction c using Nat.strongRecOn with
  | ind c ih =>
    by_cases h : c < 128
    · rw [cnt_small h, show c / 128 = 0 by omega, stp_zero]; rfl
    · rw [cnt_big (by omega), List.length_cons, ih (c / 128) (by omega), stp_pos (show 0 < c / 128 by omega)]
theorem stp_le (m k : Nat) (h : m < 128 ^ k) : stp m ≤ k := by
  induction k generalizing m with
  | zero => have : m = 0 := by simp at h; exact h
            subst this; rw [stp_zero]; omega
  | succ k ih =>
    by_cases hm : m = 0
    · subst hm; rw [stp_zero]; omega
    · rw [stp_pos (by omega)]
      have := ih (m / 128) (by rw [Nat.pow_succ] at h; omega)
      omega
theorem cnt_length_le (c : Nat) (h : c < 18446744073709551616) : (cnt c).length ≤ 10 := by
  rw [cnt_length]
  have := stp_le (c / 128) 9 (by omega)
  omega
/-- a count off the front: at place i, c so far -/
def tk : Nat → Nat → List Nat → Option (Nat × List Nat)
  | _, _, [] => none
  | i, c, x :: r => if i = 9 ∧ 1 < x then none else if x = 0 ∧ 0 < i then none else if x < 128 then some (c + x * 128 ^ i, r) else tk (i + 1) (c + (x - 128) * 128 ^ i) r
theorem tk_cnt (d : Nat) : ∀ (i c : Nat) (r : List Nat), i ≤ 9 → d < 2 * 128 ^ (9 - i) → (0 < i → 0 < d) → tk i c (cnt d ++ r) = some (c + d * 128 ^ i, r) := by
  induction d using Nat.strongRecOn with
  | ind d ih =>
    intro i c r hi hd hp
    by_cases h : d < 128
    · rw [cnt_small h]
      show tk i c (d :: r) = _
      unfold tk
      rw [if_neg (by rintro ⟨rfl, h1⟩; simp at hd; omega), if_neg (by omega), if_pos h]
    · rw [cnt_big (by omega)]
      show tk i c ((128 + d % 128) :: (cnt (d / 128) ++ r)) = _
      have hi9 : i ≠ 9 := by rintro rfl; simp at hd; omega
      have hpw : 128 ^ (9 - i) = 128 * 128 ^ (9 - (i + 1)) := by rw [show 9 - i = (9 - (i + 1)) + 1 by omega, Nat.pow_succ, Nat.mul_comm]
      unfold tk
      rw [if_neg (by omega), if_neg (by omega), if_neg (by omega), ih (d / 128) (by omega) (i + 1) _ r (by omega) (by rw [hpw] at hd; omega) (by omega)]
      congr 2
      rw [show 128 + d % 128 - 128 = d % 128 by omega, Nat.pow_succ, Nat.add_assoc]
      congr 1
      rw [show d / 128 * (128 ^ i * 128) = (128 * (d / 128)) * 128 ^ i by rw [Nat.mul_comm (128 ^ i) 128, ← Nat.mul_assoc, Nat.mul_comm (d / 128) 128], ← Nat.add_mul]
      congr 1
      omega
theorem tk_back : ∀ (L : List Nat) (i c v : Nat) (r : List Nat), i ≤ 9 → (∀ x ∈ L, x < 256) → tk i c L = some (v, r) →
    ∃ d, v = c + d * 128 ^ i ∧ (0 < i → 0 < d) ∧ L = cnt d ++ r ∧ d < 2 * 128 ^ (9 - i)
  | [], i, c, v, r, hi, hL, h => by simp [tk] at h
  | x :: l, i, c, v, r, hi, hL, h => by
    have hx : x < 256 := hL x (by simp)
    unfold tk at h
    by_cases h9 : i = 9 ∧ 1 < x
    · rw [if_pos h9] at h; cases h
    rw [if_neg h9] at h
    by_cases h0 : x = 0 ∧ 0 < i
    · rw [if_pos h0] at h; cases h
    rw [if_neg h0] at h
    by_cases hs : x < 128
    · rw [if_pos hs] at h
      injection h with h
      injection h with h1 h2
      subst h1; subst h2
      refine ⟨x, rfl, by omega, by rw [cnt_small hs]; rfl, ?_⟩
      by_cases e : i = 9
      · subst e; simp; omega
      · have hpw : 128 ^ (9 - i) = 128 * 128 ^ (9 - (i + 1)) := by rw [show 9 - i = (9 - (i + 1)) + 1 by omega, Nat.pow_succ, Nat.mul_comm]
        have := Nat.pow_pos (n := 9 - (i + 1)) (show 0 < 128 by omega)
        omega
    · rw [if_neg hs] at h
      have hi9 : i ≠ 9 := by omega
      obtain ⟨d, e1, e2, e3, e4⟩ := tk_back l (i + 1) _ v r (by omega) (fun y hy => hL y (by simp [hy])) h
      have hd := e2 (by omega)
      refine ⟨(x - 128) + 128 * d, ?_, by omega, ?_, ?_⟩
      · rw [e1, Nat.pow_succ, Nat.add_assoc]
        congr 1
        rw [Nat.add_mul]
        congr 1
        rw [Nat.mul_comm (128 ^ i) 128, ← Nat.mul_assoc, Nat.mul_comm d 128]
      · rw [cnt_big (by omega), show 128 + ((x - 128) + 128 * d) % 128 = x by omega, show ((x - 128) + 128 * d) / 128 = d by omega, e3]
        rfl
      · have hpw : 128 ^ (9 - i) = 128 * 128 ^ (9 - (i + 1)) := by rw [show 9 - i = (9 - (i + 1)) + 1 by omega, Nat.pow_succ, Nat.mul_comm]
        omega
theorem tk0_cnt (d : Nat) (r : List Nat) (h : d < 18446744073709551616) : tk 0 0 (cnt d ++ r) = some (d, r) := by
  rw [tk_cnt d 0 0 r (by omega) (by simpa using h) (by omega)]
  simp
theorem tk0_back {L : List Nat} {v : Nat} {r : List Nat} (hL : ∀ x ∈ L, x < 256) (h : tk 0 0 L = some (v, r)) : L = cnt v ++ r ∧ v < 18446744073709551616 := by
  obtain ⟨d, e1, _, e3, e4⟩ := tk_back L 0 0 v r (by omega) hL h
  have : v = d := by simpa using e1
  subst this
  exact ⟨e3, by simpa using e4⟩

/-- the count that tells a number -/
def fold (n : Int) : Nat := if 0 ≤ n then (2 * n).toNat else (-2 * n - 1).toNat
def unf (c : Nat) : Int := if c % 2 = 0 then (c / 2 : Nat) else -((c / 2 : Nat) : Int) - 1
theorem unf_fold (n : Int) : unf (fold n) = n := by
  unfold unf fold
  split
  · rw [if_pos (by omega)]; omega
  · rw [if_neg (by omega)]; omega
theorem fold_unf (c : Nat) : fold (unf c) = c := by
  unfold unf fold
  split
  · rw [if_pos (by omega)]; omega
  · rw [if_neg (by omega)]; omega
theorem fold_lt {n : Int} (h1 : -9223372036854775808 ≤ n) (h2 : n ≤ 9223372036854775807) : fold n < 18446744073709551616 := by unfold fold; split <;> omega
theorem unf_bounds {c : Nat} (h : c < 18446744073709551616) : -9223372036854775808 ≤ unf c ∧ unf c ≤ 9223372036854775807 := by unfold unf; split <;> omega

/-- an item -/
structure It where
  k : Int
  n : Int
  s : ByteArray
/-- the bytes of a text -/
def sb (s : ByteArray) : List Nat := s.data.toList.map UInt8.toNat
theorem sb_length (s : ByteArray) : (sb s).length = s.size := by unfold sb; rw [List.length_map, Array.length_toList]; rfl
theorem sb_lt (s : ByteArray) : ∀ x ∈ sb s, x < 256 := by
  intro x hx
  simp only [sb, List.mem_map] at hx
  obtain ⟨u, _, rfl⟩ := hx
  exact u.toNat_lt
/-- the text of bytes -/
def txt (L : List Nat) : ByteArray := ⟨(L.map UInt8.ofNat).toArray⟩
theorem sb_txt {L : List Nat} (h : ∀ x ∈ L, x < 256) : sb (txt L) = L := by
  unfold sb txt
  simp only [List.map_map]
  conv => rhs; rw [← List.map_id L]
  apply List.map_congr_left
  intro x hx
  have := h x hx
  simp [UInt8.toNat_ofNat']
  omega
theorem txt_sb (s : ByteArray) : txt (sb s) = s := by
  obtain ⟨a⟩ := s
  unfold sb txt
  simp only [List.map_map]
  congr 1
  rw [show (UInt8.ofNat ∘ UInt8.toNat) = id from funext fun u => by simp, List.map_id, Array.toArray_toList]
theorem sb_inj {a b : ByteArray} (h : sb a = sb b) : a = b := by rw [← txt_sb a, ← txt_sb b, h]
theorem txt_size (L : List Nat) : (txt L).size = L.length := by
  show ((L.map UInt8.ofNat).toArray).size = _
  simp
/-- is an item of a kind, with nothing of the other one -/
def formed (x : It) : Bool := if x.k = 1 then decide (x.s = ⟨#[]⟩) else if x.k = 2 then decide (x.n = 0) else false
def big (x : It) : Bool := decide (x.k = 2 ∧ 4000 < x.s.size)
/-- what a list is refused with, by its items -/
def flt : Int → List It → Int
  | r, [] => r
  | r, x :: l => if big x then 14 else flt (if formed x then r else 2) l
def fault (l : List It) : Int := if 2000 < l.length then 14 else flt 0 l
/-- a right item -/
def Right (x : It) : Prop := formed x = true ∧ big x = false
theorem flt_two : ∀ l, flt 2 l ≠ 0
  | [] => by simp [flt]
  | x :: l => by
    unfold flt
    split
    · omega
    · have := flt_two l
      split <;> exact this
theorem flt_ok : ∀ l, flt 0 l = 0 → ∀ x ∈ l, Right x
  | [], _, x, hx => by simp at hx
  | y :: l, h, x, hx => by
    unfold flt at h
    by_cases hb : big y
    · rw [if_pos hb] at h; omega
    rw [if_neg hb] at h
    by_cases hf : formed y
    · rw [if_pos hf] at h
      rcases List.mem_cons.1 hx with rfl | hx
      · exact ⟨hf, by simpa using hb⟩
      · exact flt_ok l h x hx
    · rw [if_neg hf] at h
      exact absurd h (flt_two l)
theorem flt_right : ∀ l, (∀ x ∈ l, Right x) → flt 0 l = 0
  | [], _ => rfl
  | y :: l, h => by
    unfold flt
    have hy := h y (by simp)
    rw [if_neg (by rw [hy.2]; simp), if_pos hy.1]
    exact flt_right l fun x hx => h x (by simp [hx])
theorem fault_ok {l : List It} (h : fault l = 0) : l.length ≤ 2000 ∧ ∀ x ∈ l, Right x := by
  unfold fault at h
  split at h
  · omega
  · exact ⟨by omega, flt_ok l h⟩
theorem fault_right {l : List It} (h1 : l.length ≤ 2000) (h2 : ∀ x ∈ l, Right x) : fault l = 0 := by
  unfold fault
  rw [if_neg (by omega)]
  exact flt_right l h2
theorem Right.cases {x : It} (h : Right x) : (x.k = 1 ∧ x.s = ⟨#[]⟩) ∨ (x.k = 2 ∧ x.n = 0 ∧ x.s.size ≤ 4000) := by
  obtain ⟨h1, h2⟩ := h
  unfold formed at h1
  unfold big at h2
  by_cases e1 : x.k = 1
  · rw [if_pos e1] at h1
    exact .inl ⟨e1, by simpa using h1⟩
  · rw [if_neg e1] at h1
    by_cases e2 : x.k = 2
    · rw [if_pos e2] at h1
      refine .inr ⟨e2, by simpa using h1, ?_⟩
      simp [e2] at h2
      omega
    · rw [if_neg e2] at h1; cases h1
/-- an item's bytes -/
def encI (x : It) : List Nat := if x.k = 1 then 1 :: cnt (fold x.n) else 2 :: (cnt x.s.size ++ sb x.s)
def encs : List It → List Nat
  | [] => []
  | x :: l => encI x ++ encs l
theorem encs_append (l m : List It) : encs (l ++ m) = encs l ++ encs m := by
  induction l with
  | nil => rfl
  | cons x l ih => show encI x ++ encs (l ++ m) = (encI x ++ encs l) ++ encs m; rw [ih, List.append_assoc]
theorem encI_lt (x : It) : ∀ b ∈ encI x, b < 256 := by
  intro b hb
  unfold encI at hb
  split at hb
  · rcases List.mem_cons.1 hb with rfl | hb
    · omega
    · exact cnt_lt _ b hb
  · rcases List.mem_cons.1 hb with rfl | hb
    · omega
    · rcases List.mem_append.1 hb with hb | hb
      · exact cnt_lt _ b hb
      · exact sb_lt _ b hb
theorem encs_lt (l : List It) : ∀ b ∈ encs l, b < 256 := by
  induction l with
  | nil => intro b hb; simp [encs] at hb
  | cons x l ih =>
    intro b hb
    rcases List.mem_append.1 hb with hb | hb
    · exact encI_lt x b hb
    · exact ih b hb
/-- a number that an item may hold -/
def Fits (x : It) : Prop := -9223372036854775808 ≤ x.n ∧ x.n ≤ 9223372036854775807
theorem encI_length_le {x : It} (h : Right x) (hn : Fits x) : (encI x).length ≤ 4011 := by
  unfold encI
  rcases h.cases with ⟨h1, h2⟩ | ⟨h1, h2, h3⟩
  · rw [if_pos h1]
    have := cnt_length_le (fold x.n) (fold_lt hn.1 hn.2)
    simp; omega
  · rw [if_neg (by omega)]
    have := cnt_length_le x.s.size (by omega)
    simp [sb_length]; omega
theorem encs_length_le {l : List It} (h : ∀ x ∈ l, Right x) (hn : ∀ x ∈ l, Fits x) : (encs l).length ≤ 4011 * l.length := by
  induction l with
  | nil => simp [encs]
  | cons x l ih =>
    have h1 := encI_length_le (h x (by simp)) (hn x (by simp))
    have h2 := ih (fun y hy => h y (by simp [hy])) (fun y hy => hn y (by simp [hy]))
    show (encI x ++ encs l).length ≤ 4011 * (l.length + 1)
    rw [List.length_append]
    omega
/-- the item with which bytes begin -/
def pickI (k : Nat) : Option (Nat × List Nat) → Option (It × List Nat)
  | none => none
  | some (c, rest) => if k = 1 then some (⟨1, unf c, ⟨#[]⟩⟩, rest) else if k = 2 ∧ c ≤ 4000 ∧ c ≤ rest.length then some (⟨2, 0, txt (rest.take c)⟩, rest.drop c) else none
theorem pickI_some (k c : Nat) (rest : List Nat) : pickI k (some (c, rest)) = if k = 1 then some (⟨1, unf c, ⟨#[]⟩⟩, rest) else if k = 2 ∧ c ≤ 4000 ∧ c ≤ rest.length then some (⟨2, 0, txt (rest.take c)⟩, rest.drop c) else none := rfl
def takeI : List Nat → Option (It × List Nat)
  | [] => none
  | k :: r => pickI k (tk 0 0 r)
def decs : Nat → List Nat → Option (List It)
  | _, [] => some []
  | 0, _ :: _ => none
  | m + 1, b :: r => match takeI (b :: r) with
    | none => none
    | some (x, rest) => (decs m rest).map (x :: ·)
theorem takeI_enc {x : It} (h : Right x) (hn : Fits x) (r : List Nat) : takeI (encI x ++ r) = some (x, r) := by
  obtain ⟨k, n, s⟩ := x
  unfold encI
  rcases h.cases with ⟨h1, h2⟩ | ⟨h1, h2, h3⟩
  · dsimp at h1 h2
    subst h1; subst h2
    rw [if_pos rfl]
    show pickI 1 (tk 0 0 (cnt (fold n) ++ r)) = _
    rw [tk0_cnt _ _ (fold_lt hn.1 hn.2)]
    simp [pickI, unf_fold]
  · dsimp at h1 h2 h3
    subst h1; subst h2
    rw [if_neg (by simp)]
    show pickI 2 (tk 0 0 ((cnt s.size ++ sb s) ++ r)) = _
    rw [List.append_assoc, tk0_cnt _ _ (by omega)]
    have hl := sb_length s
    rw [pickI_some]
    rw [if_neg (by omega), if_pos ⟨rfl, h3, by rw [List.length_append]; omega⟩, ← hl, List.take_left, List.drop_left, txt_sb]
theorem takeI_back {L : List Nat} {x : It} {r : List Nat} (hL : ∀ b ∈ L, b < 256) (h : takeI L = some (x, r)) : L = encI x ++ r ∧ Right x ∧ Fits x ∧ L ≠ [] := by
  cases L with
  | nil => simp [takeI] at h
  | cons k l =>
    have h : pickI k (tk 0 0 l) = some (x, r) := h
    cases hq : tk 0 0 l with
    | none => rw [hq] at h; cases h
    | some p =>
      obtain ⟨c, rest⟩ := p
      obtain ⟨e1, e2⟩ := tk0_back (fun y hy => hL y (by simp [hy])) hq
      have hrest : ∀ y ∈ rest, y < 256 := fun y hy => hL y (by rw [e1]; simp [hy])
      rw [hq, pickI_some] at h
      by_cases h1 : k = 1
      · rw [if_pos h1] at h
        injection h with h
        injection h with h2 h3
        subst h1; subst h2; subst h3
        refine ⟨?_, ⟨by simp [formed], by simp [big]⟩, unf_bounds e2, by simp⟩
        unfold encI
        rw [if_pos rfl, fold_unf, e1]
        rfl
      · rw [if_neg h1] at h
        by_cases h2 : k = 2 ∧ c ≤ 4000 ∧ c ≤ rest.length
        · rw [if_pos h2] at h
          injection h with h
          injection h with h3 h4
          subst h3; subst h4
          obtain ⟨hk, hc, hr⟩ := h2
          subst hk
          have hz : (txt (rest.take c)).size = c := by rw [txt_size, List.length_take]; omega
          refine ⟨?_, ⟨by simp [formed], by simp [big, hz]; omega⟩, by simp [Fits], by simp⟩
          unfold encI
          rw [if_neg (by simp)]
          show 2 :: l = 2 :: ((cnt (txt (rest.take c)).size ++ sb (txt (rest.take c))) ++ rest.drop c)
          rw [hz, sb_txt (fun y hy => hrest y (List.mem_of_mem_take hy)), List.append_assoc, List.take_append_drop, e1]
        · rw [if_neg h2] at h; cases h
theorem encI_ne (x : It) : encI x ≠ [] := by unfold encI; split <;> simp
theorem decs_enc : ∀ (m : Nat) (l : List It), l.length ≤ m → (∀ x ∈ l, Right x) → (∀ x ∈ l, Fits x) → decs m (encs l) = some l
  | m, [], _, _, _ => by cases m <;> rfl
  | 0, x :: l, h, _, _ => by simp at h
  | m + 1, x :: l, h, hr, hf => by
    have h1 := takeI_enc (hr x (by simp)) (hf x (by simp)) (encs l)
    have h2 := decs_enc m l (by simp at h; omega) (fun y hy => hr y (by simp [hy])) (fun y hy => hf y (by simp [hy]))
    show decs (m + 1) (encI x ++ encs l) = _
    cases he : encI x ++ encs l with
    | nil => exact absurd (List.append_eq_nil_iff.1 he).1 (encI_ne x)
    | cons b t =>
      rw [he] at h1
      unfold decs
      rw [h1]
      simp only []
      rw [h2]
      rfl
theorem decs_back : ∀ (m : Nat) (L : List Nat) (l : List It), (∀ b ∈ L, b < 256) → decs m L = some l → L = encs l ∧ l.length ≤ m ∧ (∀ x ∈ l, Right x) ∧ (∀ x ∈ l, Fits x)
  | m, [], l, _, h => by
    have : l = [] := by cases m <;> simp [decs] at h <;> exact h
    subst this
    exact ⟨rfl, by simp, fun x hx => by simp at hx, fun x hx => by simp at hx⟩
  | 0, b :: r, l, _, h => by simp [decs] at h
  | m + 1, b :: r, l, hL, h => by
    unfold decs at h
    cases hq : takeI (b :: r) with
    | none => rw [hq] at h; cases h
    | some p =>
      obtain ⟨x, rest⟩ := p
      rw [hq] at h
      simp only [] at h
      obtain ⟨e1, e2, e3, _⟩ := takeI_back hL hq
      cases hd : decs m rest with
      | none => rw [hd] at h; cases h
      | some t =>
        rw [hd] at h
        simp at h
        subst h
        obtain ⟨f1, f2, f3, f4⟩ := decs_back m rest t (fun y hy => hL y (by rw [e1]; simp [hy])) hd
        refine ⟨by rw [e1, f1]; rfl, by simp; omega, fun y hy => ?_, fun y hy => ?_⟩
        · rcases List.mem_cons.1 hy with rfl | hy
          · exact e2
          · exact f3 y hy
        · rcases List.mem_cons.1 hy with rfl | hy
          · exact e3
          · exact f4 y hy
theorem encs_inj {l m : List It} (hl : fault l = 0) (hm : fault m = 0) (fl : ∀ x ∈ l, Fits x) (fm : ∀ x ∈ m, Fits x) (h : encs l = encs m) : l = m := by
  have h1 := decs_enc 2000 l (fault_ok hl).1 (fault_ok hl).2 fl
  have h2 := decs_enc 2000 m (fault_ok hm).1 (fault_ok hm).2 fm
  rw [h, h2] at h1
  injection h1 with h1
  exact h1.symm
end Go.Proofs.YthioanenljpclaaGreatDoor.K
