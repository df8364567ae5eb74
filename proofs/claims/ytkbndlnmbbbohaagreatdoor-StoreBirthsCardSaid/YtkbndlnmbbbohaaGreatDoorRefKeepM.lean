/-
  'Get' where the block is remembered. The conditions: the store stands, the block is in its memory.
-/
import Derived.Test.YtkbndlnmbbbohaaGreatDoorStoRecall
import Derived.Test.YtkbndlnmbbbohaaGreatDoorArrStateM
import Derived.Test.YtkbndlnmbbbohaaGreatDoorFieldSumsM
import Derived.Laws.OwnMore
import Derived.Test.YtkbndlnmbbbohaaGreatDoorStrBM
import Derived.Test.YtkbndlnmbbbohaaGreatDoorRackPowerM
namespace Go.Proofs.YtkbndlnmbbbohaaGreatDoor
open Go Go.RowKit refRack
set_option maxRecDepth 100000
set_option linter.unusedVariables false
namespace Sto
open Sp Arr
section
variable {B : Nat} {w w' : World} {p a r sp m : Nat} {v : Value} {S : St}
theorem ownsRow_mem {w w' : World} {base n : Nat} {vb : Value} {l : List Value} (h : w.ownsRow base 5 1 vb n l) (hk : KeepM B w w') : w'.ownsRow base 5 1 vb n l := by
  refine ⟨h.1, ?_⟩
  rcases h.2 with e | ⟨g, cap, cur, h1, h2, h3, h4⟩
  · exact .inl e
  · exact .inr ⟨g, cap, cur, h1, h2, hk.kept _ _ h3 rfl, h4⟩
set_option maxHeartbeats 3200000 in
theorem get_hit (w : World) (h : StoV B w p a r sp m 0 v S) (hfew : S.mem.length ≤ 64) (hc0 : S.c0 ≤ 1000000) (ad bi : Int) (x : Kx) (hx : S.mem[idx ad S.mem]? = some x) (hpos : 0 < x.dat.length) :
    Calls Tryz.prog 18 #[.pointer (some ⟨p, 0, none⟩), .agg #[.int .i64 ad, .int .i64 ((x.hn : Nat) : Int), .int .i64 bi, .string x.sum]] w fun e w' => ∃ vb, e = .returned (.tuple #[vb, .int .i64 0]) ∧ w'.ownsRow w.heap.size 5 1 vb x.hn (rowL x.hn fun j => x.dat.getD j 0) ∧
      (∃ v', StoV B w' p a r sp m 0 v' { S with mem := Sto.cut ad S.mem ++ [x], c0 := S.c0 + 1 }) ∧ KeepM B w w' := by
  obtain ⟨bx, hbx⟩ : ∃ bx, bx = w.heap.size := ⟨_, rfl⟩
  obtain ⟨wa, hwa⟩ : ∃ wa, wa = w.alloc (.cells #[.int .i64 ad, .int .i64 ((x.hn : Nat) : Int), .int .i64 bi, .string x.sum] 38) := ⟨_, rfl⟩
  have hba : Below w.heap.size w wa := by rw [hwa]; exact (Below.refl _ _).alloc (Nat.le_refl _) _
  have HA := Lib.hid (h.below hba)
  have XB : Hid (Blk wa bx 38 #[.int .i64 ad, .int .i64 ((x.hn : Nat) : Int), .int .i64 bi, .string x.sum]) := Lib.hid (by rw [hwa, hbx]; exact Blk.new _ _ _)
  have KA : Hid (KeepM B w wa) := Lib.hid ((KeepM.refl B w).new hba h.le)
  have HE := Lib.hid (enter_any wa HA.out)
  have HWA := Lib.hid hwa
  have HBX := Lib.hid hbx
  have HIN := Lib.hid (⟨hfew, hx, hpos, hc0⟩ : _ ∧ _ ∧ _ ∧ _)
  clear h hba hwa hbx hfew hx hpos hc0
  go_enter_defers Tryz.func18, Tryz.ntmps18
  go_wp2_with fail
  rw [← HWA.out, ← HBX.out]
  refine HE.out.mono ?_
  rintro e w1 ⟨rfl, s1, k1⟩
  have S1 := Lib.hid s1
  have K1 := Lib.hid (KA.out.trans k1)
  have X1 : Hid (Blk w1 bx 38 #[.int .i64 ad, .int .i64 ((x.hn : Nat) : Int), .int .i64 bi, .string x.sum]) := Lib.hid (k1.kept _ _ XB.out rfl)
  clear s1 k1 HE HA XB KA
  go_upto_region 4 with (fail)
  have SD := Lib.hid (S1.out.below (Below.refl w1.heap.size w1).drew)
  have KD := Lib.hid (K1.out.new (Below.refl w1.heap.size w1).drew S1.out.le)
  have HS0 : Hid (Blk w1.drew bx 38 #[.int .i64 ad, .int .i64 ((x.hn : Nat) : Int), .int .i64 bi, .string x.sum]) := Lib.hid (show Blk w1 bx _ _ from X1.out)
  have HRE := Lib.hid (recall_hit (B := B) w1.drew p _ v S.mem ad bi x SD.out.blk rfl SD.out.row HIN.out.1 SD.out.lo HIN.out.2.1 HIN.out.2.2.1)
  clear S1 K1 X1
  refine wp_region_noPanic ?_
  refine region_anyZ (fun W => Blk W bx 38 #[.int .i64 ad, .int .i64 ((x.hn : Nat) : Int), .int .i64 bi, .string x.sum]) 10 (by kernel_rfl) ?_
  refine takeG 0 (.move (.tmp 0)) (some 20) none (.pointer (some ⟨p, 0, none⟩)) (by kernel_rfl) (by kernel_rfl) (by kernel_rfl) (fun _ _ _ h => h) (fun o' wq e hS => exec_move wq e (by kernel_rfl)) HS0.out ?_
  refine takeG 1 (.nilCheck (.tmp 20)) (some 21) none (.pointer (some ⟨p, 0, none⟩)) (by kernel_rfl) (by kernel_rfl) (by kernel_rfl) (fun _ _ _ h => h) (fun o' wq e hS => exec_nil wq e (by kernel_rfl)) HS0.out ?_
  refine takeG 2 (.fieldAddr 92 (.tmp 21) 4) (some 22) none (.pointer (some ⟨p, 5, none⟩)) (by kernel_rfl) (by kernel_rfl) (by kernel_rfl) (fun _ _ _ h => h) (fun o' wq e hS => exec_field (u := .pointer (some ⟨p, 0, none⟩)) wq e (by kernel_rfl) (by kernel_rfl)) HS0.out ?_
  refine takeG 3 (.load 38 (.tmp 3)) (some 23) none (.agg #[.int .i64 ad, .int .i64 ((x.hn : Nat) : Int), .int .i64 bi, .string x.sum]) (by kernel_rfl) (by kernel_rfl) (by kernel_rfl) (fun _ _ _ h => h) (fun o' wq e hS => exec_load (x := (.tmp 3)) e (by kernel_rfl) (load_blk hS Tryz.underlying38 rfl size_ptr)) HS0.out ?_
  refine loneG 4 (.call ⟨.value (.func 42), #[(.tmp 22), (.tmp 23)], #[84, 38]⟩) (some 24) none (by kernel_rfl) (by kernel_rfl) (by kernel_rfl) ?_
  intro o' ho hod
  refine wp_callC (f := 42) (args := #[.pointer (some ⟨p, 5, none⟩), .agg #[.int .i64 ad, .int .i64 ((x.hn : Nat) : Int), .int .i64 bi, .string x.sum]]) (by cases o'; cases ho; kernel_rfl) HRE.out ?_
  rintro ee w2 ⟨vb, rfl, ow, hm⟩
  refine ⟨_, rfl, ?_⟩
  rw [hod]
  clear hod ho
  have HOW := Lib.hid ow
  have HME := Lib.hid hm
  have HS1 : Hid (Blk w2 bx 38 #[.int .i64 ad, .int .i64 ((x.hn : Nat) : Int), .int .i64 bi, .string x.sum]) := Lib.hid (by
    obtain ⟨_, _, _, hk⟩ := hm
    exact hk.kept _ _ HS0.out rfl)
  clear ow hm
  refine ⟨fun _ => HS1.out, ?_⟩
  refine takeG 5 (.move (.tmp 24)) (some 19) none (.tuple #[vb, .bool true]) (by kernel_rfl) (by kernel_rfl) (by kernel_rfl) (fun _ _ _ h => h) (fun o' wq e hS => exec_move wq e (by kernel_rfl)) HS1.out ?_
  refine takeG 6 (.extract (.tmp 19) 0) (some 25) none (vb) (by kernel_rfl) (by kernel_rfl) (by kernel_rfl) (fun _ _ _ h => h) (fun o' wq e hS => exec_ext (vs := #[vb, .bool true]) wq e (by kernel_rfl) (by rfl)) HS1.out ?_
  refine takeG 7 (.extract (.tmp 19) 1) (some 26) none (.bool true) (by kernel_rfl) (by kernel_rfl) (by kernel_rfl) (fun _ _ _ h => h) (fun o' wq e hS => exec_ext (vs := #[vb, .bool true]) wq e (by kernel_rfl) (by rfl)) HS1.out ?_
  refine loneG 8 (.assign (.tmp 25)) (some 6) none (by kernel_rfl) (by kernel_rfl) (by kernel_rfl) ?_
  intro o' ho hod
  refine wp_val (v := vb) (exec_assign _ ho (by kernel_rfl)) ?_
  rw [hod]
  clear hod ho
  refine ⟨fun _ => HS1.out, ?_⟩
  refine lastS 9 (.assign (.tmp 26)) (some 7) (.bool true) (by kernel_rfl) (by kernel_rfl) (by kernel_rfl) HS1.out (fun o' e => exec_assign _ e (by kernel_rfl)) ?_
  refine NoPanic.normal ?_
  simp only [put_some, put_none, List.setIfInBounds_toArray, List.set_cons_succ, List.set_cons_zero]
  obtain ⟨v2, s2, k2⟩ := SD.out.memo HME.out
  have S2 := Lib.hid s2
  have K2 := Lib.hid (KD.out.trans k2)
  have HHC := Lib.hid (hit_any w2 s2 HIN.out.2.2.2)
  have HOB : Hid (w.heap.size ≤ w1.drew.heap.size) := Lib.hid KD.out.below.size
  clear s2 k2 SD KD HS0 HS1 HRE HME
  go_wp2_with fail
  refine HHC.out.mono ?_
  rintro e w3 ⟨rfl, s3, k3⟩
  have S3 := Lib.hid s3
  have K3 := Lib.hid (K2.out.trans k3)
  have HO3 := Lib.hid (ownsRow_mem (HOW.out) k3)
  have HU := Lib.hid (fun u => unlock_deferred ⟨p, 1, none⟩ u w3 (S3.out.blk.cell 1) (S3.out.blk.frozen 1))
  have HP := Lib.hid (s3.put (i := 1) (u := .int .i32 0) (lk' := 0) (S' := { S with mem := Sto.cut ad S.mem ++ [x], c0 := S.c0 + 1 }) rfl rfl rfl rfl rfl)
  clear s3 k3 HHC
  go_wp2_with fail
  refine leaves_cons (f := 28) (args := #[.pointer (some ⟨p, 1, none⟩)]) (by simp) (by simp [go_sem]) ?_
  refine (HU.out _).mono ?_
  rintro e u' w4 ⟨rfl, rfl, rfl⟩
  simp [Leaves, settle, results, Tryz.results18, -List.getD_eq_getElem?_getD]
  exact ⟨ownsRow_base (ownsRow_mem HO3.out HP.out.2) HOB.out, ⟨v2, HP.out.1⟩, K3.out.trans HP.out.2⟩
end
end Sto
end Go.Proofs.YtkbndlnmbbbohaaGreatDoor
namespace Go.Proofs.YtkbndlnmbbbohaaGreatDoor
open Go Go.RowKit
set_option maxRecDepth 100000
set_option linter.unusedVariables false
namespace refRack
def textV (x : Nat → Nat) : Value := .string (strB 128 x)
def textL (n : Nat) (X : Nat → Nat → Nat) : List Value := (List.range n).map fun a => textV (X a)
def headL (n : Nat) (H C : Nat → Nat) (m : Nat) : List Value := (List.range n).map fun d => .slice (some ⟨H d, 0, none⟩) m (C d)
def boolL (n : Nat) (G : Nat → Bool) : List Value := (List.range n).map fun d => .bool (G d)
def waitV (v : Wt) : List Value := [.int .i64 (v.d : Int), .int .i64 (v.a : Int), textV v.x]
def waitL (W : Nat → Wt) : Nat → List Value
  | 0 => []
  | n + 1 => waitL W n ++ waitV (W n)
theorem textL_get {n a : Nat} (X : Nat → Nat → Nat) (h : a < n) : (textL n X)[a]? = some (textV (X a)) := by simp [textL, h]
theorem headL_get {n d m : Nat} (H C : Nat → Nat) (h : d < n) : (headL n H C m)[d]? = some (.slice (some ⟨H d, 0, none⟩) m (C d)) := by simp [headL, h]
theorem boolL_get {n d : Nat} (G : Nat → Bool) (h : d < n) : (boolL n G)[d]? = some (.bool (G d)) := by simp [boolL, h]
theorem waitL_length (W : Nat → Wt) : ∀ n, (waitL W n).length = n * 3
  | 0 => rfl
  | n + 1 => by
    unfold waitL
    rw [List.length_append, waitL_length W n]
    show n * 3 + 3 = _
    omega
theorem waitL_get (W : Nat → Wt) {j : Nat} (hj : j < 3) : ∀ {n i : Nat}, i < n → (waitL W n)[i * 3 + j]? = (waitV (W i))[j]?
  | 0, i, h => absurd h (Nat.not_lt_zero _)
  | n + 1, i, h => by
    unfold waitL
    by_cases e : i = n
    · subst e
      rw [List.getElem?_append_right (by rw [waitL_length]; omega), waitL_length, show i * 3 + j - i * 3 = j by omega]
    · rw [List.getElem?_append_left (by rw [waitL_length]; omega)]
      exact waitL_get W hj (by omega)
theorem own_keep {w w' : World} {B n c : Nat} {e : TypeId} {v : Value} {xs : List Value} (h : w.ownsRow B e c v n xs) (hk : ∀ g, v.ownBlock = some g → w'.heap[g]? = w.heap[g]?) : w'.ownsRow B e c v n xs := by
  refine ⟨h.1, ?_⟩
  rcases h.2 with h2 | ⟨g, cap, cur, rfl, h2, h3, h4⟩
  · exact .inl h2
  · exact .inr ⟨g, cap, cur, rfl, h2, (hk g rfl).trans h3, h4⟩
theorem own_type {w : World} {B B' n n' c c' : Nat} {e e' : TypeId} {v v' : Value} {xs xs' : List Value} (h : w.ownsRow B e c v n xs) (h' : w.ownsRow B' e' c' v' n' xs') (hne : (e == e') = false) {g : Nat} (hg : v.ownBlock = some g) : v'.ownBlock ≠ some g := fun hg' => by
  rcases h.2 with ⟨rfl, _⟩ | ⟨g1, cap, cur, rfl, _, h3, _⟩
  · cases hg
  · rcases h'.2 with ⟨rfl, _⟩ | ⟨g2, cap2, cur2, rfl, _, h3', _⟩
    · cases hg'
    · simp [Value.ownBlock] at hg hg'
      subst hg
      subst hg'
      rw [h3] at h3'
      injection h3' with h3'
      injection h3' with _ h3' _
      rw [h3'] at hne
      simp at hne
theorem own_not_blk {w : World} {B n c g : Nat} {e t : TypeId} {v : Value} {xs : List Value} {cs : Array Value} (h : w.ownsRow B e c v n xs) (hb : Blk w g t cs) (hne : (e == t) = false) : v.ownBlock ≠ some g := fun hg => by
  rcases h.2 with ⟨rfl, _⟩ | ⟨g1, cap, cur, rfl, _, h3, _⟩
  · cases hg
  · simp [Value.ownBlock] at hg
    subst hg
    unfold Blk at hb
    rw [hb] at h3
    injection h3 with h3
    injection h3 with _ h3 _
    rw [h3] at hne
    simp at hne
theorem own_lt {w : World} {B n c g : Nat} {e : TypeId} {v : Value} {xs : List Value} (h : w.ownsRow B e c v n xs) (hg : v.ownBlock = some g) : g < w.heap.size ∧ B ≤ g := by
  rcases h.2 with ⟨rfl, _⟩ | ⟨g1, cap, cur, rfl, h2, h3, _⟩
  · cases hg
  · simp [Value.ownBlock] at hg
    subst hg
    exact ⟨(Array.getElem?_eq_some_iff.1 h3).1, h2⟩
/-- its power: how many writes are left, -1 where it isn't armed -/
def armI (s : RS) : Int := if s.armed then (s.left : Int) else -1
def cells (s : RS) (vL vG vW : Value) : Array Value := #[vL, vG, vW, .bool s.off, .int .i64 (armI s)]
/-- The document's rack at block g. -/
structure TK (B : Nat) (w : World) (g : Nat) (s : RS) (vL vG vW : Value) (H C : Nat → Nat) : Prop where
  blk : Blk w g 177 (cells s vL vG vW)
  hg : B ≤ g
  heads : w.ownsRow B 178 1 vL s.nd (headL s.nd H C s.ns)
  rows : ∀ d, d < s.nd → w.ownsRow B 9 1 (.slice (some ⟨H d, 0, none⟩) s.ns (C d)) s.ns (textL s.ns (s.last d))
  apart : ∀ d d', d < s.nd → d' < s.nd → d ≠ d' → H d ≠ H d'
  lost : w.ownsRow B 4 1 vG s.nd (boolL s.nd s.gone)
  waits : w.ownsRow B 316 3 vW s.nw (waitL s.W s.nw)
def TAt (B : Nat) (w : World) (g : Nat) (s : RS) : Prop := ∃ vL vG vW H C, TK B w g s vL vG vW H C
section
variable {B : Nat} {w w' : World} {g : Nat} {s : RS} {vL vG vW : Value} {H C : Nat → Nat}
/-- other memory may change -/
theorem TK.keep (h : TK B w g s vL vG vW H C) (hk : ∀ k, B ≤ k → k < w.heap.size → w'.heap[k]? = w.heap[k]?) : TK B w' g s vL vG vW H C := by
  have ok : ∀ {n c : Nat} {e : TypeId} {v : Value} {xs : List Value}, w.ownsRow B e c v n xs → w'.ownsRow B e c v n xs := fun h1 => own_keep h1 fun k hk1 => hk k (own_lt h1 hk1).2 (own_lt h1 hk1).1
  refine ⟨?_, h.hg, ok h.heads, fun d hd => ok (h.rows d hd), h.apart, ok h.lost, ok h.waits⟩
  have hb := h.blk
  have hl := hb.lt
  unfold Blk at hb ⊢
  exact (hk g h.hg hl).trans hb
theorem TK.below (h : TK B w g s vL vG vW H C) (hb : Below w.heap.size w w') : TK B w' g s vL vG vW H C := h.keep fun k _ hk => hb.block k hk
theorem TAt.below (h : TAt B w g s) (hb : Below w.heap.size w w') : TAt B w' g s := by
  obtain ⟨vL, vG, vW, H, C, h⟩ := h
  exact ⟨vL, vG, vW, H, C, h.below hb⟩
theorem TK.c0 (h : TK B w g s vL vG vW H C) : w.cell? ⟨g, 0, none⟩ = some vL := h.blk.cell 0
theorem TK.c1 (h : TK B w g s vL vG vW H C) : w.cell? ⟨g, 1, none⟩ = some vG := h.blk.cell 1
theorem TK.c2 (h : TK B w g s vL vG vW H C) : w.cell? ⟨g, 2, none⟩ = some vW := h.blk.cell 2
theorem TK.c3 (h : TK B w g s vL vG vW H C) : w.cell? ⟨g, 3, none⟩ = some (.bool s.off) := h.blk.cell 3
theorem TK.c4 (h : TK B w g s vL vG vW H C) : w.cell? ⟨g, 4, none⟩ = some (.int .i64 (armI s)) := h.blk.cell 4
theorem TK.shapeL (h : TK B w g s vL vG vW H C) (hn : 0 < s.nd) : ∃ l c, vL = .slice (some ⟨l, 0, none⟩) s.nd c := by
  rcases h.heads.2 with ⟨_, e⟩ | ⟨l, cap, cur, e, _⟩
  · omega
  · exact ⟨l, cap, e⟩
theorem TK.shapeG (h : TK B w g s vL vG vW H C) (hn : 0 < s.nd) : ∃ l c, vG = .slice (some ⟨l, 0, none⟩) s.nd c := by
  rcases h.lost.2 with ⟨_, e⟩ | ⟨l, cap, cur, e, _⟩
  · omega
  · exact ⟨l, cap, e⟩
theorem TK.shapeW (h : TK B w g s vL vG vW H C) : ∃ A c, vW = .slice A s.nw c ∧ (0 < s.nw → ∃ l, A = some ⟨l, 0, none⟩) := by
  rcases h.waits.2 with ⟨e, e2⟩ | ⟨l, cap, cur, e, _⟩
  · exact ⟨none, 0, by rw [e, e2], fun h => by omega⟩
  · exact ⟨_, cap, e, fun _ => ⟨l, rfl⟩⟩
end
end refRack
end Go.Proofs.YtkbndlnmbbbohaaGreatDoor
namespace Go.Proofs.YtkbndlnmbbbohaaGreatDoor
open Go Go.RowKit
set_option maxRecDepth 100000
set_option linter.unusedVariables false
namespace refRack
def idx (o : Option Nat) : Int := match o with | some i => (i : Int) | none => -1
section
variable {B : Nat} {w w' : World} {g : Nat} {s : RS} {vL vG vW : Value} {H C : Nat → Nat}
theorem TK.head (h : TK B w g s vL vG vW H C) {d : Nat} (hd : d < s.nd) : ∃ l c, vL = .slice (some ⟨l, 0, none⟩) s.nd c ∧ w.cell? ⟨l, d, none⟩ = some (.slice (some ⟨H d, 0, none⟩) s.ns (C d)) ∧ w.frozen? ⟨l, d, none⟩ = false := by
  obtain ⟨l, c, rfl⟩ := h.shapeL (by omega)
  exact ⟨l, c, rfl, by rw [h.heads.cellAt d (by omega), headL_get _ _ hd], h.heads.frozenAt d⟩
theorem TK.text (h : TK B w g s vL vG vW H C) {d a : Nat} (hd : d < s.nd) (ha : a < s.ns) : w.cell? ⟨H d, a, none⟩ = some (textV (s.last d a)) ∧ w.frozen? ⟨H d, a, none⟩ = false := by
  exact ⟨by rw [(h.rows d hd).cellAt a (by omega), textL_get _ ha], (h.rows d hd).frozenAt a⟩
theorem TK.gone (h : TK B w g s vL vG vW H C) {d : Nat} (hd : d < s.nd) : ∃ l c, vG = .slice (some ⟨l, 0, none⟩) s.nd c ∧ w.cell? ⟨l, d, none⟩ = some (.bool (s.gone d)) ∧ w.frozen? ⟨l, d, none⟩ = false := by
  obtain ⟨l, c, rfl⟩ := h.shapeG (by omega)
  exact ⟨l, c, rfl, by rw [h.lost.cellAt d (by omega), boolL_get _ hd], h.lost.frozenAt d⟩
theorem TK.wait (h : TK B w g s vL vG vW H C) {i : Nat} (hi : i < s.nw) : ∃ l c, vW = .slice (some ⟨l, 0, none⟩) s.nw c ∧ w.cell? ⟨l, i * 3, none⟩ = some (.int .i64 ((s.W i).d : Int)) ∧ w.cell? ⟨l, i * 3 + 1, none⟩ = some (.int .i64 ((s.W i).a : Int)) ∧ w.cell? ⟨l, i * 3 + 2, none⟩ = some (textV (s.W i).x) := by
  obtain ⟨A, c, rfl, hA⟩ := h.shapeW
  obtain ⟨l, rfl⟩ := hA (by omega)
  refine ⟨l, c, rfl, ?_, ?_, ?_⟩
  · rw [h.waits.cellAt (i * 3) (by omega)]
    exact waitL_get s.W (j := 0) (by omega) hi
  · rw [h.waits.cellAt (i * 3 + 1) (by omega)]
    exact waitL_get s.W (j := 1) (by omega) hi
  · rw [h.waits.cellAt (i * 3 + 2) (by omega)]
    exact waitL_get s.W (j := 2) (by omega) hi
theorem TK.nw_le (h : TK B w g s vL vG vW H C) : s.nw ≤ maxLen := by
  rcases h.waits.2 with ⟨_, e⟩ | ⟨l, cap, cur, e, _, _, h1, h2, _⟩
  · omega
  · omega
end
end refRack
end Go.Proofs.YtkbndlnmbbbohaaGreatDoor
namespace Go.Proofs.YtkbndlnmbbbohaaGreatDoor
open Go Go.RowKit
set_option maxRecDepth 100000
set_option linter.unusedVariables false
namespace refRack
/-- what the document's rack is made of -/
def refT (t : TypeId) : Bool := t == 177 || (t == 178 || (t == 9 || (t == 4 || t == 316)))
def refObj : Obj → Bool
  | .cells _ t _ => refT t
  | _ => false
structure KeepR (B : Nat) (w w' : World) : Prop where
  below : Below B w w'
  kept : ∀ (k : Nat) (o : Obj), w.heap[k]? = some o → refObj o = false → w'.heap[k]? = some o
section
variable {B : Nat} {a w w' : World} {g : Nat} {s : RS} {vL vG vW : Value} {H C : Nat → Nat}
theorem KeepR.refl (B : Nat) (w : World) : KeepR B w w := ⟨Below.refl B w, fun _ _ h _ => h⟩
theorem KeepR.trans (h : KeepR B a w) (k : KeepR B w w') : KeepR B a w' := ⟨h.below.trans k.below, fun i o h1 h2 => k.kept i o (h.kept i o h1 h2) h2⟩
theorem KeepR.of_grown (h : KeepR B a w) (hg : w.grownBy w' (some g)) (hB : B ≤ g) (hs : B ≤ w.heap.size) (ho : ∀ o, w.heap[g]? = some o → refObj o = true) : KeepR B a w' :=
  ⟨h.below.trans ⟨hg.os, hg.tape, hg.output, hg.size, fun k hk => hg.block k (by omega) (fun e => by injection e; omega)⟩, fun i x h1 h2 => by
    have h3 := h.kept i x h1 h2
    refine (hg.block i (Array.getElem?_eq_some_iff.1 h3).1 (fun e => ?_)).trans h3
    injection e with e
    subst e
    rw [ho _ h3] at h2
    cases h2⟩
theorem KeepR.new (h : KeepR B a w) (hb : Below w.heap.size w w') (hs : B ≤ w.heap.size) : KeepR B a w' :=
  ⟨h.below.trans (hb.mono hs), fun i x h1 h2 => by
    have h3 := h.kept i x h1 h2
    exact (hb.block i (Array.getElem?_eq_some_iff.1 h3).1).trans h3⟩
theorem TK.le (h : TK B w g s vL vG vW H C) : B ≤ w.heap.size := Nat.le_trans h.hg (Nat.le_of_lt h.blk.lt)
/-- a store into the rack's own block -/
theorem KeepR.put (h : KeepR B a w) (hk : TK B w g s vL vG vW H C) (i : Nat) (u : Value) : KeepR B a (w.setCell ⟨g, i, none⟩ u) :=
  h.of_grown (grown_set w g i u) hk.hg hk.le fun o ho => by
    have hb := hk.blk
    unfold Blk at hb
    rw [hb] at ho
    injection ho with ho
    subst ho
    rfl
theorem own_obj {n c : Nat} {e : TypeId} {v : Value} {xs : List Value} (h : w.ownsRow B e c v n xs) (he : refT e = true) (hv : v.ownBlock = some g) : ∀ o, w.heap[g]? = some o → refObj o = true := fun o ho => by
  rcases h.2 with ⟨rfl, _⟩ | ⟨g1, cap, cur, rfl, _, h3, _⟩
  · cases hv
  · simp [Value.ownBlock] at hv
    subst hv
    rw [h3] at ho
    injection ho with ho
    subst ho
    exact he
/-- growth of one of its rows -/
theorem KeepR.row (h : KeepR B a w) {n c : Nat} {e : TypeId} {v : Value} {xs : List Value} (hr : w.ownsRow B e c v n xs) (he : refT e = true) (hs : B ≤ w.heap.size) (hg : w.grownBy w' v.ownBlock) : KeepR B a w' := by
  cases hv : v.ownBlock with
  | none =>
    rw [hv] at hg
    exact h.new ⟨hg.os, hg.tape, hg.output, hg.size, fun k hk => hg.block k hk (fun e => by cases e)⟩ hs
  | some g1 =>
    rw [hv] at hg
    exact h.of_grown hg (own_lt hr hv).2 hs (own_obj hr he hv)
/-- a store of a power's cell -/
theorem TK.power (h : TK B w g s vL vG vW H C) {i : Nat} {u : Value} {off armed : Bool} {left : Nat} (e : (cells s vL vG vW).setIfInBounds i u = cells { s with off := off, armed := armed, left := left } vL vG vW) :
    TK B (w.setCell ⟨g, i, none⟩ u) g { s with off := off, armed := armed, left := left } vL vG vW H C := by
  have ok : ∀ {n c : Nat} {t : TypeId} {v : Value} {xs : List Value}, (t == 177) = false → w.ownsRow B t c v n xs → (w.setCell ⟨g, i, none⟩ u).ownsRow B t c v n xs := fun he h1 => own_keep h1 fun g1 hg1 => Below.heap_setCell w ⟨g, i, none⟩ u g1 (fun e => own_not_blk h1 h.blk he (by rw [hg1]; exact congrArg some e))
  refine ⟨?_, h.hg, ok rfl h.heads, fun d hd => ok rfl (h.rows d hd), h.apart, ok rfl h.lost, ok rfl h.waits⟩
  have := h.blk.set_ i u
  rw [e] at this
  exact this
theorem TK.frozen (h : TK B w g s vL vG vW H C) (i : Nat) : w.frozen? ⟨g, i, none⟩ = false := h.blk.frozen i
end
end refRack
end Go.Proofs.YtkbndlnmbbbohaaGreatDoor
