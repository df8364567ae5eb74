/-
  'hoardref05.Same' by contracts. Conditions: lists that read as items.
-/
import Derived.Test.YthioanenljpclaaGreatDoorDrawSeqM
import Derived.Test.YthioanenljpclaaGreatDoorPackRefAll
import Derived.KernelRfl
import Derived.Test.YthioanenljpclaaGreatDoorBytesM
import Derived.BigQuiet
import Derived.Lib.Hide
namespace Go.Proofs.YthioanenljpclaaGreatDoor
set_option maxRecDepth 100000
open Go Go.RowKit
set_option linter.unusedVariables false

theorem bytes_eq {a b : ByteArray} (h : a.toList = b.toList) : a = b := by
  obtain ⟨a⟩ := a
  obtain ⟨b⟩ := b
  rw [ByteArray.toList_eq, ByteArray.toList_eq] at h
  congr 1
  exact Array.toList_inj.1 h
theorem neq_same (x : K.It) (W : World) : (binOp .neq 104 (.agg (itA x)) (.agg (itA x))).run Tryz.prog W = .ok (.bool false) W := by
  unfold itA
  simp [go_sem, run_neq_struct]
theorem neq_diff (x y : K.It) (h : x ≠ y) (W : World) : (binOp .neq 104 (.agg (itA x)) (.agg (itA y))).run Tryz.prog W = .ok (.bool true) W := by
  obtain ⟨xk, xn, xs⟩ := x
  obtain ⟨yk, yn, ys⟩ := y
  unfold itA
  dsimp only
  by_cases h1 : xk = yk
  · subst h1
    by_cases h2 : xn = yn
    · subst h2
      have h3 : xs.toList ≠ ys.toList := fun e => h (by rw [bytes_eq e])
      simp [go_sem, run_neq_struct, h3]
    · simp [go_sem, run_neq_struct, h2]
  · simp [go_sem, run_neq_struct, h1]
end Go.Proofs.YthioanenljpclaaGreatDoor
namespace Go.Proofs.YthioanenljpclaaGreatDoor
set_option maxRecDepth 100000
open Go Go.RowKit
set_option linter.unusedVariables false

def outS (l : List K.It) : ByteArray := if K.fault l = 0 then K.txt (K.encs l) else ⟨#[]⟩
def outL (L : List Nat) : List K.It := (K.decs 2000 L).getD []
def outE (L : List Nat) : Int := if (K.decs 2000 L).isSome then 0 else 2
theorem docEncode_any (A : Option Addr) (l : List K.It) (c B : Nat) (w : World) (hx : RdT w B A l) (hB : B ≤ w.heap.size) (hg : ∀ x ∈ l, Good x) (hlc : l.length ≤ c) (hcm : c ≤ maxLen) :
    Calls Tryz.prog 62 #[.slice A l.length c] w fun e w' => e = .returned (.tuple #[.string (outS l), .int .i64 (K.fault l)]) ∧ Below w.heap.size w w' := by
  unfold outS
  by_cases hf : K.fault l = 0
  · rw [if_pos hf, hf]
    exact docEncode_ok A l c B w hx hB hg hlc hcm hf
  · rw [if_neg hf]
    refine (docEncode_bad A l c B w hx hB hg hlc hcm hf).mono ?_
    rintro e w' ⟨he, rfl⟩
    exact ⟨he, Below.refl _ _⟩
theorem DecOut.sh {L : List Nat} {base : Nat} {e : Ending} {w' : World} (h : DecOut L base e w') : ∃ A c, e = .returned (.tuple #[.slice A (outL L).length c, .int .i64 (outE L)]) ∧ RdT w' w'.heap.size A (outL L) ∧ (outL L).length ≤ c ∧ c ≤ maxLen := by
  unfold outL outE
  rcases h with ⟨h, rfl⟩ | ⟨l, v, h, rfl, ho⟩
  · rw [h]
    exact ⟨none, 0, rfl, fun j x hj => by simp at hj, by simp, by unfold maxLen; omega⟩
  · rw [h]
    obtain ⟨A, c, rfl, hlc, hcm, hr, _, _⟩ := ho.shape
    exact ⟨A, c, rfl, hr, hlc, hcm⟩
end Go.Proofs.YthioanenljpclaaGreatDoor
namespace Go.Proofs.YthioanenljpclaaGreatDoor.M
set_option maxRecDepth 100000
set_option linter.unusedVariables false

/-- a natural number reckoned out before it is handed on (for the kernel's sake) -/
def force {α : Type} (n : Nat) (k : Nat → α) : α := Nat.rec (k 0) (fun m _ => k (m + 1)) n
theorem force_eq {α : Type} (n : Nat) (k : Nat → α) : force n k = k n := by cases n <;> rfl

def ror (x n : Nat) : Nat := ((x <<< (32 - n)) % 4294967296) ||| (x >>> n)
def q0 (x : Nat) : Nat := (ror x 7 ^^^ ror x 18) ^^^ (x >>> 3)
def q1 (x : Nat) : Nat := (ror x 17 ^^^ ror x 19) ^^^ (x >>> 10)
def p0 (a : Nat) : Nat := (ror a 2 ^^^ ror a 13) ^^^ ror a 22
def p1 (e : Nat) : Nat := (ror e 6 ^^^ ror e 11) ^^^ ror e 25
def ch (e f g : Nat) : Nat := (e &&& f) ^^^ ((4294967295 ^^^ e) &&& g)
def maj (a b c : Nat) : Nat := ((a &&& b) ^^^ (a &&& c)) ^^^ (b &&& c)

theorem x32 {a b : Nat} (ha : a < 4294967296) (hb : b < 4294967296) : a ^^^ b < 4294967296 := Nat.xor_lt_two_pow (n := 32) ha hb
theorem a32 {a : Nat} (b : Nat) (ha : a < 4294967296) : a &&& b < 4294967296 := Nat.lt_of_le_of_lt Nat.and_le_left ha
theorem o32 {a b : Nat} (ha : a < 4294967296) (hb : b < 4294967296) : a ||| b < 4294967296 := Nat.or_lt_two_pow (n := 32) ha hb
theorem shr_le (x n : Nat) : x >>> n ≤ x := by rw [Nat.shiftRight_eq_div_pow]; exact Nat.div_le_self _ _
theorem ror_lt {x : Nat} (n : Nat) (h : x < 4294967296) : ror x n < 4294967296 := o32 (Nat.mod_lt _ (by omega)) (Nat.lt_of_le_of_lt (shr_le x n) h)
theorem q0_lt {x : Nat} (h : x < 4294967296) : q0 x < 4294967296 := x32 (x32 (ror_lt _ h) (ror_lt _ h)) (Nat.lt_of_le_of_lt (shr_le x 3) h)
theorem q1_lt {x : Nat} (h : x < 4294967296) : q1 x < 4294967296 := x32 (x32 (ror_lt _ h) (ror_lt _ h)) (Nat.lt_of_le_of_lt (shr_le x 10) h)
theorem p0_lt {x : Nat} (h : x < 4294967296) : p0 x < 4294967296 := x32 (x32 (ror_lt _ h) (ror_lt _ h)) (ror_lt _ h)
theorem p1_lt {x : Nat} (h : x < 4294967296) : p1 x < 4294967296 := x32 (x32 (ror_lt _ h) (ror_lt _ h)) (ror_lt _ h)
theorem ch_lt {e f g : Nat} (he : e < 4294967296) (hf : f < 4294967296) (hg : g < 4294967296) : ch e f g < 4294967296 := x32 (a32 _ he) (a32 _ (x32 (by omega) he))
theorem maj_lt {a b c : Nat} (ha : a < 4294967296) (hb : b < 4294967296) (hc : c < 4294967296) : maj a b c < 4294967296 := x32 (x32 (a32 _ ha) (a32 _ ha)) (a32 _ hb)

/-! ### the numbers of one block -/
def num (X : Nat → Nat) (o : Nat) : Nat := ((X o <<< 24 ||| X (o + 1) <<< 16) ||| X (o + 2) <<< 8) ||| X (o + 3)
theorem num_lt {X : Nat → Nat} (hX : ∀ j, X j < 256) (o : Nat) : num X o < 4294967296 := by
  have s : ∀ (x k : Nat), x < 256 → k ≤ 24 → x <<< k < 4294967296 := fun x k hx hk => by
    rw [Nat.shiftLeft_eq]
    have : 2 ^ k ≤ 2 ^ 24 := Nat.pow_le_pow_right (by omega) hk
    have : x * 2 ^ k ≤ 255 * 2 ^ 24 := Nat.mul_le_mul (by omega) this
    omega
  exact o32 (o32 (o32 (s _ _ (hX _) (by omega)) (s _ _ (hX _) (by omega))) (s _ _ (hX _) (by omega))) (by have := hX (o + 3); omega)
def wnew (x k : Nat) (l : List Nat) : Nat := if k < 16 then x else ((l.getD 15 0 + q0 (l.getD 14 0)) + l.getD 6 0 + q1 (l.getD 1 0)) % 4294967296
/-- the first k numbers, the last one first -/
def wl (X : Nat → Nat) : Nat → List Nat
  | 0 => []
  | k + 1 => wnew (num X (4 * k)) k (wl X k) :: wl X k
def wd (X : Nat → Nat) (t : Nat) : Nat := (wl X (t + 1)).getD 0 0
theorem wl_get (X : Nat → Nat) : ∀ k j, j < k → (wl X k).getD j 0 = wd X (k - 1 - j)
  | k + 1, 0, _ => by show _ = (wl X _).getD 0 0; rfl
  | k + 1, j + 1, h => by
    have e : (wl X (k + 1)).getD (j + 1) 0 = (wl X k).getD j 0 := rfl
    rw [e, wl_get X k j (by omega)]
    congr 1
    omega
theorem wd_low (X : Nat → Nat) (t : Nat) (h : t < 16) : wd X t = num X (4 * t) := by
  show wnew _ _ _ = _
  unfold wnew
  rw [if_pos h]
theorem wd_high (X : Nat → Nat) (t : Nat) (h : 16 ≤ t) : wd X t = (((wd X (t - 16) + q0 (wd X (t - 15))) + wd X (t - 7)) + q1 (wd X (t - 2))) % 4294967296 := by
  have e : wd X t = (((wl X t).getD 15 0 + q0 ((wl X t).getD 14 0)) + (wl X t).getD 6 0 + q1 ((wl X t).getD 1 0)) % 4294967296 := by
    show wnew _ _ _ = _
    unfold wnew
    rw [if_neg (by omega)]
  rw [e, wl_get X t 15 (by omega), wl_get X t 14 (by omega), wl_get X t 6 (by omega), wl_get X t 1 (by omega)]
  rw [show t - 1 - 15 = t - 16 by omega, show t - 1 - 14 = t - 15 by omega, show t - 1 - 6 = t - 7 by omega, show t - 1 - 1 = t - 2 by omega]
theorem wd_lt {X : Nat → Nat} (hX : ∀ j, X j < 256) (t : Nat) : wd X t < 4294967296 := by
  by_cases h : t < 16
  · rw [wd_low X t h]; exact num_lt hX _
  · rw [wd_high X t (by omega)]; exact Nat.mod_lt _ (by omega)
theorem num_congr {X Y : Nat → Nat} {o : Nat} (h : ∀ j, j < 64 → X j = Y j) (ho : o + 3 < 64) : num X o = num Y o := by
  unfold num
  rw [h o (by omega), h (o + 1) (by omega), h (o + 2) (by omega), h (o + 3) ho]
theorem wl_congr {X Y : Nat → Nat} (h : ∀ j, j < 64 → X j = Y j) : ∀ k, wl X k = wl Y k
  | 0 => rfl
  | k + 1 => by
    show wnew _ _ _ :: wl X k = wnew _ _ _ :: wl Y k
    rw [wl_congr h k]
    by_cases hk : k < 16
    · rw [num_congr h (by omega)]
    · unfold wnew
      rw [if_neg hk, if_neg hk]
theorem wd_congr {X Y : Nat → Nat} (h : ∀ j, j < 64 → X j = Y j) (t : Nat) : wd X t = wd Y t := by unfold wd; rw [wl_congr h]

/-! ### eight numbers -/
structure S8 where
  (a b c d e f g h : Nat)
def S8.ok (s : S8) : Prop := s.a < 4294967296 ∧ s.b < 4294967296 ∧ s.c < 4294967296 ∧ s.d < 4294967296 ∧ s.e < 4294967296 ∧ s.f < 4294967296 ∧ s.g < 4294967296 ∧ s.h < 4294967296
def S8.get (s : S8) (i : Nat) : Nat := if i = 0 then s.a else if i = 1 then s.b else if i = 2 then s.c else if i = 3 then s.d else if i = 4 then s.e else if i = 5 then s.f else if i = 6 then s.g else s.h
theorem S8.get_lt {s : S8} (h : s.ok) (i : Nat) : s.get i < 4294967296 := by
  obtain ⟨h0, h1, h2, h3, h4, h5, h6, h7⟩ := h
  unfold S8.get
  repeat' split
  all_goals assumption
def init : S8 := ⟨1779033703, 3144134277, 1013904242, 2773480762, 1359893119, 2600822924, 528734635, 1541459225⟩
theorem init_ok : init.ok := ⟨by decide, by decide, by decide, by decide, by decide, by decide, by decide, by decide⟩
def roots : List Nat := [1116352408, 1899447441, 3049323471, 3921009573, 961987163, 1508970993, 2453635748, 2870763221, 3624381080, 310598401, 607225278, 1426881987, 1925078388, 2162078206, 2614888103, 3248222580, 3835390401, 4022224774, 264347078, 604807628, 770255983, 1249150122, 1555081692, 1996064986, 2554220882, 2821834349, 2952996808, 3210313671, 3336571891, 3584528711, 113926993, 338241895, 666307205, 773529912, 1294757372, 1396182291, 1695183700, 1986661051, 2177026350, 2456956037, 2730485921, 2820302411, 3259730800, 3345764771, 3516065817, 3600352804, 4094571909, 275423344, 430227734, 506948616, 659060556, 883997877, 958139571, 1322822218, 1537002063, 1747873779, 1955562222, 2024104815, 2227730452, 2361852424, 2428436474, 2756734187, 3204031479, 3329325298]
def rt (t : Nat) : Nat := roots.getD t 0
theorem rt_lt_all : (List.range 64).all (fun t => decide (rt t < 4294967296)) = true := by decide +kernel
theorem rt_lt (t : Nat) (h : t < 64) : rt t < 4294967296 := by
  have := List.all_eq_true.1 rt_lt_all t (by simpa using h)
  simpa using this
def t1 (s : S8) (k w : Nat) : Nat := ((((s.h + p1 s.e) + ch s.e s.f s.g) + k) + w) % 4294967296
def t2 (s : S8) : Nat := (p0 s.a + maj s.a s.b s.c) % 4294967296
def rnd (s : S8) (k w : Nat) : S8 := ⟨(t1 s k w + t2 s) % 4294967296, s.a, s.b, s.c, (s.d + t1 s k w) % 4294967296, s.e, s.f, s.g⟩
theorem rnd_ok {s : S8} (h : s.ok) (k w : Nat) : (rnd s k w).ok := by
  obtain ⟨h0, h1, h2, h3, h4, h5, h6, h7⟩ := h
  exact ⟨Nat.mod_lt _ (by omega), h0, h1, h2, Nat.mod_lt _ (by omega), h4, h5, h6⟩
/-- behind t rounds -/
def rounds (s : S8) (W : Nat → Nat) : Nat → S8
  | 0 => s
  | t + 1 => rnd (rounds s W t) (rt t) (W t)
theorem rounds_ok {s : S8} (h : s.ok) (W : Nat → Nat) : ∀ t, (rounds s W t).ok
  | 0 => h
  | t + 1 => rnd_ok (rounds_ok h W t) _ _
theorem rounds_congr {W V : Nat → Nat} (s : S8) : ∀ t, (∀ j, j < t → W j = V j) → rounds s W t = rounds s V t
  | 0, _ => rfl
  | t + 1, h => by
    unfold rounds
    rw [rounds_congr s t fun j hj => h j (by omega), h t (by omega)]
def plus (x y : S8) : S8 := ⟨(x.a + y.a) % 4294967296, (x.b + y.b) % 4294967296, (x.c + y.c) % 4294967296, (x.d + y.d) % 4294967296, (x.e + y.e) % 4294967296, (x.f + y.f) % 4294967296, (x.g + y.g) % 4294967296, (x.h + y.h) % 4294967296⟩
theorem plus_ok (x y : S8) : (plus x y).ok := by unfold plus S8.ok; refine ⟨?_, ?_, ?_, ?_, ?_, ?_, ?_, ?_⟩ <;> exact Nat.mod_lt _ (by omega)
/-- one block's numbers taken in -/
def mixW (s : S8) (W : Nat → Nat) : S8 := plus s (rounds s W 64)
def mixB (s : S8) (X : Nat → Nat) : S8 := mixW s (wd X)
theorem mixB_congr {X Y : Nat → Nat} (s : S8) (h : ∀ j, j < 64 → X j = Y j) : mixB s X = mixB s Y := by
  unfold mixB mixW
  rw [rounds_congr s 64 fun j _ => wd_congr h j]
/-- n blocks -/
def addB (s : S8) (X : Nat → Nat) : Nat → S8
  | 0 => s
  | n + 1 => mixB (addB s X n) fun j => X (64 * n + j)
theorem addB_ok {s : S8} (h : s.ok) (X : Nat → Nat) : ∀ n, (addB s X n).ok
  | 0 => h
  | n + 1 => plus_ok _ _
theorem addB_congr {X Y : Nat → Nat} (s : S8) : ∀ n, (∀ j, j < 64 * n → X j = Y j) → addB s X n = addB s Y n
  | 0, _ => rfl
  | n + 1, h => by
    unfold addB
    rw [addB_congr s n fun j hj => h j (by omega)]
    exact mixB_congr _ fun j hj => h _ (by omega)
theorem addB_add (s : S8) (X : Nat → Nat) (m : Nat) : ∀ n, addB s X (m + n) = addB (addB s X m) (fun j => X (64 * m + j)) n
  | 0 => rfl
  | n + 1 => by
    show mixB (addB s X (m + n)) _ = mixB (addB _ _ n) _
    rw [addB_add s X m n]
    exact mixB_congr _ fun j _ => by
      show X (64 * (m + n) + j) = X (64 * m + (64 * n + j))
      rw [Nat.mul_add, Nat.add_assoc]

/-! ### the message's end -/
def restN (n : Nat) : Nat := if 64 < n % 64 + 1 + 8 then 128 else 64
/-- byte j of what stands behind the last whole block, k of the count's bytes laid -/
def restTo (n : Nat) (X : Nat → Nat) (k : Nat) (j : Nat) : Nat :=
  if j < n % 64 then X (n / 64 * 64 + j) else if j = n % 64 then 128 else if restN n - k ≤ j ∧ j < restN n then ((n * 8) >>> (8 * (restN n - 1 - j))) % 256 else 0
def rest (n : Nat) (X : Nat → Nat) (j : Nat) : Nat := restTo n X 8 j
theorem rest_lt {n : Nat} {X : Nat → Nat} (hX : ∀ j, X j < 256) (k j : Nat) : restTo n X k j < 256 := by
  unfold restTo
  split
  · exact hX _
  · split
    · omega
    · split
      · exact Nat.mod_lt _ (by omega)
      · omega
def sumS (n : Nat) (X : Nat → Nat) : S8 := addB (addB init X (n / 64)) (rest n X) (restN n / 64)
theorem sumS_ok (n : Nat) (X : Nat → Nat) : (sumS n X).ok := addB_ok (addB_ok init_ok _ _) _ _
/-- byte j of the sum -/
def outB (s : S8) (j : Nat) : Nat := (s.get (j / 4) >>> (24 - 8 * (j % 4))) % 256
theorem outB_lt (s : S8) (j : Nat) : outB s j < 256 := Nat.mod_lt _ (by omega)
def sum (n : Nat) (X : Nat → Nat) (j : Nat) : Nat := outB (sumS n X) j
theorem sum_lt (n : Nat) (X : Nat → Nat) (j : Nat) : sum n X j < 256 := outB_lt _ _
theorem rest_congr {n : Nat} {X Y : Nat → Nat} (h : ∀ j, j < n → X j = Y j) (k j : Nat) : restTo n X k j = restTo n Y k j := by
  unfold restTo
  by_cases hj : j < n % 64
  · rw [if_pos hj, if_pos hj, h _ (by omega)]
  · rw [if_neg hj, if_neg hj]
theorem sumS_congr {n : Nat} {X Y : Nat → Nat} (h : ∀ j, j < n → X j = Y j) : sumS n X = sumS n Y := by
  unfold sumS
  rw [addB_congr init (n / 64) fun j hj => h j (by omega)]
  exact addB_congr _ _ fun j _ => rest_congr h 8 j
theorem sum_congr {n : Nat} {X Y : Nat → Nat} (h : ∀ j, j < n → X j = Y j) (j : Nat) : sum n X j = sum n Y j := by unfold sum; rw [sumS_congr h]

/-! ### the sum of three letters, reckoned out -/
end Go.Proofs.YthioanenljpclaaGreatDoor.M
namespace Go.Proofs.YthioanenljpclaaGreatDoor
set_option maxRecDepth 100000
open Go.RowKit
set_option linter.unusedVariables false

theorem ofInt_i32 (a : Nat) (ha : a < 4294967296) : (BitVec.ofInt 32 (a : Int)).toNat = a := by
  rw [BitVec.ofInt_natCast, BitVec.toNat_ofNat]; exact Nat.mod_eq_of_lt (by omega)
theorem u32_xor (a b : Nat) (ha : a < 4294967296) (hb : b < 4294967296) : bits .xor .u32 (a : Int) (b : Int) = ((a ^^^ b : Nat) : Int) := by
  have hx := M.x32 ha hb
  show IntKind.u32.wrap ((BitVec.ofInt 32 (a : Int) ^^^ BitVec.ofInt 32 (b : Int)).toNat : Int) = _
  rw [BitVec.toNat_xor, ofInt_i32 a ha, ofInt_i32 b hb, IntKind.wrap_u32]
  omega
theorem u32_and (a b : Nat) (ha : a < 4294967296) (hb : b < 4294967296) : bits .and .u32 (a : Int) (b : Int) = ((a &&& b : Nat) : Int) := by
  have hx := M.a32 b ha
  show IntKind.u32.wrap ((BitVec.ofInt 32 (a : Int) &&& BitVec.ofInt 32 (b : Int)).toNat : Int) = _
  rw [BitVec.toNat_and, ofInt_i32 a ha, ofInt_i32 b hb, IntKind.wrap_u32]
  omega
theorem u32_or (a b : Nat) (ha : a < 4294967296) (hb : b < 4294967296) : bits .or .u32 (a : Int) (b : Int) = ((a ||| b : Nat) : Int) := by
  have hx := M.o32 ha hb
  show IntKind.u32.wrap ((BitVec.ofInt 32 (a : Int) ||| BitVec.ofInt 32 (b : Int)).toNat : Int) = _
  rw [BitVec.toNat_or, ofInt_i32 a ha, ofInt_i32 b hb, IntKind.wrap_u32]
  omega
theorem ret_u32 {a b : Int} (h : a = b) : Ending.returned (.int .u32 a) = .returned (.int .u32 b) := by rw [h]
theorem and31 (n : Nat) (h0 : 0 < n) (h1 : n < 32) : bits .and .u64 (IntKind.u64.wrap (-(n : Int))) 31 = ((32 - n : Nat) : Int) := by
  have key : (List.range 32).all (fun n => n == 0 || bits .and .u64 (IntKind.u64.wrap (-(n : Int))) 31 == ((32 - n : Nat) : Int)) = true := by decide +kernel
  have := List.all_eq_true.1 key n (by simpa using h1)
  simp only [Bool.or_eq_true, beq_iff_eq] at this
  exact this.resolve_left (by omega)
set_option maxHeartbeats 400000 in
theorem rotate_any (x n : Nat) (hx : x < 4294967296) (h0 : 0 < n) (h1 : n < 32) (w : World) :
    Calls Tryz.prog 107 #[.int .u32 x, .int .i64 (-(n : Int))] w fun e w' => e = .returned (.int .u32 (M.ror x n : Nat)) ∧ w = w' := by
  have e1 := and31 n h0 h1
  obtain ⟨m, hm⟩ : ∃ m, m = 32 - n := ⟨_, rfl⟩
  rw [← hm] at e1
  have e2 : min m 32 = m := by omega
  have e3 : IntKind.u64.wrap (32 - (m : Int)) = (n : Int) := by simp [IntKind.wrap, IntKind.bits, IntKind.signed]; omega
  have e4 : min n 32 = n := by omega
  have e5 : (0 : Int) ≤ bits .and .u64 (IntKind.u64.wrap (-(n : Int))) 31 := by rw [e1]; omega
  have HE := Lib.hid hm
  clear hm
  go_enter Tryz.func107, Tryz.ntmps107
  go_wp2
  go_ret
  refine ⟨ret_u32 ?_, rfl⟩
  rw [show (x : Int) * 2 ^ m % 4294967296 = (((x <<< m) % 4294967296 : Nat) : Int) by rw [Nat.shiftLeft_eq, Int.natCast_emod, Int.natCast_mul, Int.natCast_pow]; rfl,
    show (x : Int) / 2 ^ n = ((x >>> n : Nat) : Int) by rw [Nat.shiftRight_eq_div_pow, Int.natCast_ediv, Int.natCast_pow]; rfl,
    u32_or _ _ (Nat.mod_lt _ (by omega)) (Nat.lt_of_le_of_lt (M.shr_le x n) hx), HE.out]
  rfl
theorem right_any (x n : Nat) (hx : x < 4294967296) (h0 : 0 < n) (h1 : n < 32) (w : World) :
    Calls Tryz.prog 105 #[.int .u32 x, .int .i64 n] w fun e w' => e = .returned (.int .u32 (M.ror x n : Nat)) ∧ w = w' := by
  go_enter Tryz.func105, Tryz.ntmps105
  go_wp2_with fail
  refine (rotate_any x n hx h0 h1 _).mono ?_
  rintro e w' ⟨rfl, rfl⟩
  go_wp2_with fail
  go_ret
  exact ⟨rfl, rfl⟩
/-- ready for a walk: any bits that are told by their number -/
theorem right_at (x n : Nat) (N : Int) (hx : x < 4294967296) (hN : N = (n : Int)) (h0 : 0 < n) (h1 : n < 32) (w : World) :
    Calls Tryz.prog 105 #[.int .u32 x, .int .i64 N] w fun e w' => e = .returned (.int .u32 (M.ror x n : Nat)) ∧ w' = w := by
  subst hN
  exact (right_any x n hx h0 h1 w).mono fun _ _ ⟨h, h'⟩ => ⟨h, h'.symm⟩

/-! ### four bytes -/
theorem shl24 (x : Nat) : (x : Int) * (16777216 : Int) = ((x <<< 24 : Nat) : Int) := by rw [Nat.shiftLeft_eq]; omega
theorem shl16 (x : Nat) : (x : Int) * (65536 : Int) = ((x <<< 16 : Nat) : Int) := by rw [Nat.shiftLeft_eq]; omega
theorem shl8 (x : Nat) : (x : Int) * (256 : Int) = ((x <<< 8 : Nat) : Int) := by rw [Nat.shiftLeft_eq]; omega
theorem shl_lt {x : Nat} (k : Nat) (h : x < 256) (hk : k ≤ 24) : x <<< k < 4294967296 := by
  rw [Nat.shiftLeft_eq]
  have h1 : 2 ^ k ≤ 2 ^ 24 := Nat.pow_le_pow_right (by omega) hk
  have h2 : x * 2 ^ k ≤ 255 * 2 ^ 24 := Nat.mul_le_mul (by omega) h1
  omega
set_option maxHeartbeats 400000 in
theorem number_any (g o c x0 x1 x2 x3 : Nat) (w : World) (l0 : x0 < 256) (l1 : x1 < 256) (l2 : x2 < 256) (l3 : x3 < 256)
    (c0 : w.cell? ⟨g, o, none⟩ = some (.int .u8 (x0 : Nat))) (c1 : w.cell? ⟨g, o + 1, none⟩ = some (.int .u8 (x1 : Nat))) (c2 : w.cell? ⟨g, o + 2, none⟩ = some (.int .u8 (x2 : Nat))) (c3 : w.cell? ⟨g, o + 3, none⟩ = some (.int .u8 (x3 : Nat))) :
    Calls Tryz.prog 106 #[.slice (some ⟨g, o, none⟩) 4 c] w fun e w' => e = .returned (.int .u32 (((x0 <<< 24 ||| x1 <<< 16) ||| x2 <<< 8) ||| x3 : Nat)) ∧ ∃ n, w' = w.drewN n := by
  go_enter Tryz.func106, Tryz.ntmps106
  go_wp2_with fail
  go_quiet (fail)
  go_wp2_with fail
  go_ret
  refine ⟨ret_u32 ?_, _, rfl⟩
  have s0 := shl_lt 24 l0 (by omega)
  have s1 := shl_lt 16 l1 (by omega)
  have s2 := shl_lt 8 l2 (by omega)
  rw [shl24, shl16, shl8, u32_or _ _ s0 s1, u32_or _ _ (M.o32 s0 s1) s2, u32_or _ _ (M.o32 (M.o32 s0 s1) s2) (by omega)]
end Go.Proofs.YthioanenljpclaaGreatDoor
namespace Go.Proofs.YthioanenljpclaaGreatDoor
set_option maxRecDepth 100000
open Go.RowKit
set_option linter.unusedVariables false

def wArr (n : Nat) (f : Nat → Nat) : Array Value := Array.ofFn (n := n) fun c => .int .u32 ((f c.val : Nat) : Int)
theorem wArr_get {n : Nat} {f : Nat → Nat} {c : Nat} (h : c < n) : (wArr n f)[c]? = some (.int .u32 ((f c : Nat) : Int)) := by simp [wArr, h]
theorem wArr_size (n : Nat) (f : Nat → Nat) : (wArr n f).size = n := by simp [wArr]
theorem wArr_congr {n : Nat} {f g : Nat → Nat} (h : ∀ c, c < n → f c = g c) : wArr n f = wArr n g := by
  unfold wArr
  congr 1
  funext c
  rw [h c.val c.isLt]
theorem wArr_one (n : Nat) (f : Nat → Nat) : (wArr n f).all (·.oneCell') = true := by
  rw [Array.all_eq_true]
  intro i hi
  simp [wArr, Value.oneCell']
theorem wArr_set {n : Nat} {f : Nat → Nat} {c v : Nat} (h : c < n) : (wArr n f).setIfInBounds c (.int .u32 ((v : Nat) : Int)) = wArr n (fun j => if j = c then v else f j) := by
  apply Array.ext_getElem?
  intro j
  rw [Array.getElem?_setIfInBounds, wArr_size]
  by_cases hj : j < n
  · rw [wArr_get hj, wArr_get hj]
    by_cases e : c = j
    · rw [if_pos e, if_pos h, if_pos e.symm]
    · rw [if_neg e, if_neg (fun x => e x.symm)]
  · rw [if_neg (by omega), Array.getElem?_eq_none (by rw [wArr_size]; omega), Array.getElem?_eq_none (by rw [wArr_size]; omega)]
theorem zero_words (w : World) : (Sem.run Tryz.prog (zeroValue 156) w) = .ok (.agg (wArr 64 fun _ => 0)) w := by kernel_rfl
theorem isize_words : (Tryz.prog.info? 156).map (·.size) = some 64 := by kernel_rfl
def wdTo (X : Nat → Nat) (k j : Nat) : Nat := if j < k then M.wd X j else 0
theorem wdTo_set (X : Nat → Nat) {k : Nat} (hk : k < 64) : (wArr 64 (wdTo X k)).setIfInBounds k (.int .u32 ((M.wd X k : Nat) : Int)) = wArr 64 (wdTo X (k + 1)) := by
  rw [wArr_set hk]
  refine wArr_congr fun c hc => ?_
  unfold wdTo
  by_cases e : c = k
  · subst e; rw [if_pos rfl, if_pos (by omega)]
  · rw [if_neg e]
    by_cases e2 : c < k
    · rw [if_pos e2, if_pos (by omega)]
    · rw [if_neg e2, if_neg (by omega)]
/-- n bytes at a place -/
def RdA (w : World) (g o n : Nat) (X : Nat → Nat) : Prop := ∀ j, j < n → w.cell? ⟨g, o + j, none⟩ = some (.int .u8 ((X j : Nat) : Int))
theorem RdA.below {w w' : World} {g o n B : Nat} {X : Nat → Nat} (h : RdA w g o n X) (hb : Below B w w') (hg : g < B) : RdA w' g o n X := fun j hj => (hb.cell (p := ⟨g, o + j, none⟩) hg).trans (h j hj)

set_option maxRecDepth 100000 in
set_option maxHeartbeats 1600000 in
theorem spread_any (g o c : Nat) (X : Nat → Nat) (w : World) (hX : ∀ j, X j < 256) (h64 : 64 ≤ c) (hcm : c ≤ maxLen) (hg : g < w.heap.size) (hx : RdA w g o 64 X) :
    Calls Tryz.prog 102 #[.slice (some ⟨g, o, none⟩) 64 c] w fun e w' => e = .returned (.agg (wArr 64 (M.wd X))) ∧ Below w.heap.size w w' := by
  unfold maxLen at hcm
  have hz := zero_words
  have B0 : Hid (Blk ((w.alloc (.cells (wArr 64 fun _ => 0) 156)).alloc (.cells (wArr 64 fun _ => 0) 156)) (w.heap.size + 1) 156 (wArr 64 (wdTo X 0))) := Lib.hid (blk_new2 w _ _ _)
  have R0 : Hid (Blk ((w.alloc (.cells (wArr 64 fun _ => 0) 156)).alloc (.cells (wArr 64 fun _ => 0) 156)) w.heap.size 156 (wArr 64 fun _ => 0)) := Lib.hid ((Blk.new w _ _).alloc _)
  have L0 : Hid (Below w.heap.size w ((w.alloc (.cells (wArr 64 fun _ => 0) 156)).alloc (.cells (wArr 64 fun _ => 0) 156))) := Lib.hid (((Below.refl _ _).alloc (Nat.le_refl _) _).alloc (by simp) _)
  have HX := Lib.hid hx
  clear hx
  go_enter Tryz.func102, Tryz.ntmps102
  go_wp2_with fail
  generalize (w.alloc (.cells (wArr 64 fun _ => 0) 156)).alloc (.cells (wArr 64 fun _ => 0) 156) = w1 at *
  generalize hh : w.heap.size = h at *
  have HH := Lib.hid hh
  clear hh hz
  go_loopw [4, 10] (fun _ x wr => ∃ k : Nat, k ≤ 16 ∧ x = .int .i64 k ∧ Hid (Blk wr (h + 1) 156 (wArr 64 (wdTo X k))) ∧ Hid (Blk wr h 156 (wArr 64 fun _ => 0)) ∧ Hid (Below h w wr)) (fun _ x _ => 16 - (intOf x).toNat)
  case atStart => exact ⟨0, by omega, rfl, B0, R0, L0⟩
  case round =>
    obtain ⟨k, hk, rfl, B1, R1, L1⟩ := hrel
    clear B0 R0 L0
    by_cases hlt : k < 16
    · have i1 : (0 : Int) ≤ (k : Int) := by omega
      have i2 : (k : Int) < 16 := by omega
      have i3 : (k : Int) < 64 := by omega
      have i4 : k < 64 := by omega
      go_wp2_with fail
      refine (number_any g (o + 4 * k) _ (X (4 * k)) (X (4 * k + 1)) (X (4 * k + 2)) (X (4 * k + 3)) _ (hX _) (hX _) (hX _) (hX _) ?_ ?_ ?_ ?_).mono ?_
      · exact (HX.out.below L1.out hg) _ (by omega)
      · rw [Nat.add_assoc]; exact (HX.out.below L1.out hg) _ (by omega)
      · rw [Nat.add_assoc]; exact (HX.out.below L1.out hg) _ (by omega)
      · rw [Nat.add_assoc]; exact (HX.out.below L1.out hg) _ (by omega)
      rintro e w2 ⟨rfl, n, rfl⟩
      have e1 : (((X (4 * k) <<< 24 ||| X (4 * k + 1) <<< 16) ||| X (4 * k + 2) <<< 8) ||| X (4 * k + 3)) = M.wd X k := (M.wd_low X k hlt).symm
      rw [e1]
      clear e1
      have c1 : (wr.drewN n).cell? ⟨h + 1, k, none⟩ = some (.int .u32 ((wdTo X k k : Nat) : Int)) := by rw [(B1.out.drewN n).cell, wArr_get i4]
      have f1 := (B1.out.drewN n).frozen k
      have B2 := (B1.out.drewN n).set_ k (.int .u32 ((M.wd X k : Nat) : Int))
      rw [wdTo_set X i4] at B2
      have B3 := Lib.hid B2
      have R3 : Hid (Blk ((wr.drewN n).setCell ⟨h + 1, k, none⟩ (.int .u32 ((M.wd X k : Nat) : Int))) h 156 (wArr 64 fun _ => 0)) := Lib.hid ((R1.out.drewN n).far (by simp) _)
      have L3 := Lib.hid ((below_drewN L1.out n).setCell (p := ⟨h + 1, k, none⟩) (by simp) (.int .u32 ((M.wd X k : Nat) : Int)))
      clear B1 R1 L1 B2
      go_wp2_with fail
      go_roundw
      case rel => exact ⟨k + 1, by omega, by go_num, B3, R3, L3⟩
      case measure => simp [intOf]; omega
    · have hk16 : k = 16 := by omega
      rw [show ((k : Nat) : Int) = 16 by omega]
      subst hk16
      clear hlt
      go_wp2_with fail
      go_loopw [5, 6, 7, 8, 9] (fun x _ _ _ _ wr => ∃ k : Nat, 16 ≤ k ∧ k ≤ 64 ∧ x = .int .i64 k ∧ Hid (Blk wr (h + 1) 156 (wArr 64 (wdTo X k))) ∧ Hid (Blk wr h 156 (wArr 64 fun _ => 0)) ∧ Hid (Below h w wr)) (fun x _ _ _ _ _ => 64 - (intOf x).toNat)
      case atStart => exact ⟨16, by omega, by omega, rfl, B1, R1, L1⟩
      case round =>
        obtain ⟨k, hk0, hk, rfl, B2, R2, L2⟩ := hrel
        clear B1 R1 L1
        by_cases hlt : k < 64
        · have a1 : IntKind.i64.wrap ((k : Int) - 15) = (k : Int) - 15 := by rw [IntKind.wrap_i64]; omega
          have a2 : IntKind.i64.wrap ((k : Int) - 2) = (k : Int) - 2 := by rw [IntKind.wrap_i64]; omega
          have a3 : IntKind.i64.wrap ((k : Int) - 16) = (k : Int) - 16 := by rw [IntKind.wrap_i64]; omega
          have a4 : IntKind.i64.wrap ((k : Int) - 7) = (k : Int) - 7 := by rw [IntKind.wrap_i64]; omega
          have b1 : (15 : Int) ≤ (k : Int) := by omega
          have b2 : (2 : Int) ≤ (k : Int) := by omega
          have b3 : (16 : Int) ≤ (k : Int) := by omega
          have b4 : (7 : Int) ≤ (k : Int) := by omega
          have d1 : (k : Int) - 15 < 64 := by omega
          have d2 : (k : Int) - 2 < 64 := by omega
          have d3 : (k : Int) - 16 < 64 := by omega
          have d4 : (k : Int) - 7 < 64 := by omega
          have d5 : (k : Int) < 64 := by omega
          have n1 : ((k : Int) - 15).toNat = k - 15 := by omega
          have n2 : ((k : Int) - 2).toNat = k - 2 := by omega
          have n3 : ((k : Int) - 16).toNat = k - 16 := by omega
          have n4 : ((k : Int) - 7).toNat = k - 7 := by omega
          have cell : ∀ j, j < k → wr.cell? ⟨h + 1, j, none⟩ = some (.int .u32 ((M.wd X j : Nat) : Int)) := fun j hj => by
            rw [B2.out.cell, wArr_get (by omega)]
            unfold wdTo
            rw [if_pos hj]
          have c1 := cell (k - 15) (by omega)
          have c2 := cell (k - 2) (by omega)
          have c3 := cell (k - 16) (by omega)
          have c4 := cell (k - 7) (by omega)
          clear cell
          go_wp2_with fail
          go_quiet (fail)
          have HH1 := Lib.hid (M.wd_high X k hk0)
          have l1 := M.wd_lt hX (k - 15)
          have l2 := M.wd_lt hX (k - 2)
          have B3 : Hid (Blk (wr.drewN nq) (h + 1) 156 (wArr 64 (wdTo X k))) := Lib.hid (B2.out.drewN nq)
          have R3 : Hid (Blk (wr.drewN nq) h 156 (wArr 64 fun _ => 0)) := Lib.hid (R2.out.drewN nq)
          have L3 : Hid (Below h w (wr.drewN nq)) := Lib.hid (below_drewN L2.out nq)
          clear c1 c2 c3 c4 B2 R2 L2
          generalize wr.drewN nq = w2 at *
          have cell : ∀ j, j < k → w2.cell? ⟨h + 1, j, none⟩ = some (.int .u32 ((M.wd X j : Nat) : Int)) := fun j hj => by
            rw [B3.out.cell, wArr_get (by omega)]
            unfold wdTo
            rw [if_pos hj]
          have c3 := cell (k - 16) (by omega)
          have c4 := cell (k - 7) (by omega)
          clear cell
          generalize M.wd X (k - 15) = x at *
          generalize M.wd X (k - 2) = y at *
          have x1 := u32_xor _ _ (M.ror_lt 7 l1) (M.ror_lt 18 l1)
          have x3 : bits .xor .u32 ((M.ror x 7 ^^^ M.ror x 18 : Nat) : Int) ((x : Int) / 8) = ((M.q0 x : Nat) : Int) := by
            rw [show (x : Int) / (8 : Int) = ((x >>> 3 : Nat) : Int) by rw [Nat.shiftRight_eq_div_pow]; omega]
            exact u32_xor _ _ (M.x32 (M.ror_lt 7 l1) (M.ror_lt 18 l1)) (Nat.lt_of_le_of_lt (M.shr_le x 3) l1)
          have y1 := u32_xor _ _ (M.ror_lt 17 l2) (M.ror_lt 19 l2)
          have y3 : bits .xor .u32 ((M.ror y 17 ^^^ M.ror y 19 : Nat) : Int) ((y : Int) / 1024) = ((M.q1 y : Nat) : Int) := by
            rw [show (y : Int) / (1024 : Int) = ((y >>> 10 : Nat) : Int) by rw [Nat.shiftRight_eq_div_pow]; omega]
            exact u32_xor _ _ (M.x32 (M.ror_lt 17 l2) (M.ror_lt 19 l2)) (Nat.lt_of_le_of_lt (M.shr_le y 10) l2)
          go_wp2_with fail
          refine (right_any x 7 l1 (by omega) (by omega) _).mono ?_
          rintro e w' ⟨rfl, rfl⟩
          go_wp2_with fail
          refine (right_any x 18 l1 (by omega) (by omega) _).mono ?_
          rintro e w' ⟨rfl, rfl⟩
          go_wp2_with fail
          refine (right_any y 17 l2 (by omega) (by omega) _).mono ?_
          rintro e w' ⟨rfl, rfl⟩
          go_wp2_with fail
          refine (right_any y 19 l2 (by omega) (by omega) _).mono ?_
          rintro e w' ⟨rfl, rfl⟩
          go_wp2_with fail
          go_still_tail 15, (by kernel_rfl)
          change wpList _ _ _ _ _ w2.drew
          have B4 : Hid (Blk w2.drew (h + 1) 156 (wArr 64 (wdTo X k))) := Lib.hid B3.out.drew
          have R4 : Hid (Blk w2.drew h 156 (wArr 64 fun _ => 0)) := Lib.hid R3.out.drew
          have L4 : Hid (Below h w w2.drew) := Lib.hid L3.out.drew
          clear B3 R3 L3 c3 c4
          generalize w2.drew = w3 at *
          have c1 : w3.cell? ⟨h + 1, k, none⟩ = some (.int .u32 ((wdTo X k k : Nat) : Int)) := by rw [B4.out.cell, wArr_get hlt]
          have f1 := B4.out.frozen k
          go_wp2_with fail
          go_roundw
          case rel =>
            have e : (((M.wd X (k - 16) : Nat) : Int) + ((M.q0 x : Nat) : Int) + ((M.wd X (k - 7) : Nat) : Int) + ((M.q1 y : Nat) : Int)) % 4294967296 = ((M.wd X k : Nat) : Int) := by
              rw [HH1.out]; omega
            rw [e]
            refine ⟨k + 1, by omega, by omega, by go_num, ?_, Lib.hid (R4.out.far (by simp) _), Lib.hid (L4.out.setCell (p := ⟨h + 1, k, none⟩) (by simp) _)⟩
            have B5 := B4.out.set_ k (.int .u32 ((M.wd X k : Nat) : Int))
            rw [wdTo_set X hlt] at B5
            exact Lib.hid B5
          case measure => simp [intOf]; omega
        · have hk64 : k = 64 := by omega
          rw [show ((k : Nat) : Int) = 64 by omega]
          subst hk64
          clear hlt
          have e : wArr 64 (wdTo X 64) = wArr 64 (M.wd X) := wArr_congr fun c hc => if_pos hc
          rw [e] at B2
          have HL := Lib.hid (load_blk B2.out Tryz.underlying156 rfl (by rw [wArr_size]; exact isize_words))
          clear e
          go_wp2_with (refine wpList_loadX rfl 156 _ rfl _ _ rfl HL.out ?_; refine of_hid ?_)
          refine Lib.hid ?_
          refine wpList_storeBlk rfl 156 (.tmp 2) (.tmp 67) rfl h (wArr 64 fun _ => 0) (wArr 64 (M.wd X)) rfl rfl R2.out (by rw [wArr_size]; exact isize_words) (by rw [wArr_size, wArr_size]) (wArr_one _ _) ?_
          intro w4 hb4 hg4 hs4
          have B4 := Lib.hid hb4
          have L4 : Hid (Below h w w4) := Lib.hid (L2.out.trans (Only.below hg4 (Nat.le_refl _) (by have := L2.out.size; have := R2.out.lt; omega)))
          have HV := Lib.hid (loadVar_blk hb4 Tryz.underlying156 rfl (by rw [wArr_size]; exact isize_words))
          clear hb4 hg4 hs4
          go_wp2_with fail
          refine bodyPost_ret (results_cell rfl rfl HV.out) rfl ?_
          rw [HH.out]
          exact ⟨rfl, L4.out⟩
end Go.Proofs.YthioanenljpclaaGreatDoor
