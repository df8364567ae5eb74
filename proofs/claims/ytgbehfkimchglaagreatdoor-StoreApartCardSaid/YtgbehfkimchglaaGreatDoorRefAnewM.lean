/-
 'Get' where the block is remembered. The conditions: the store stands, the block is in its memory.
-/
import Derived.Test.YtgbehfkimchglaaGreatDoorStoRecall
import Derived.Test.YtgbehfkimchglaaGreatDoorDetColsM
import Derived.Test.YtgbehfkimchglaaGreatDoorDrawDeepM
import Derived.Test.YtgbehfkimchglaaGreatDoorArrMathM
import Derived.Laws.OwnMore
import Derived.Test.YtgbehfkimchglaaGreatDoorStrBM
import Derived.Test.YtgbehfkimchglaaGreatDoorRackPowerM
import Derived.Test.YtgbehfkimchglaaGreatDoorSpcPartM
import Derived.Test.YtgbehfkimchglaaGreatDoorArrWrM
import Derived.ProofKit
import Derived.Deep.Grids
import Derived.Maps.AppendAt
namespace Go.Proofs.YtgbehfkimchglaaGreatDoor
open Go Go.RowKit refRack
set_option maxRecDepth 100000
set_option linter.unusedVariables false
namespace Sto
open Sp Arr
section
variable {B : Nat} {w w' : World} {p a r sp m : Nat} {v : Value} {S : St}
theorem ownsRow_mem {w w' : World} {base n : Nat} {vb : Value} {l : List Value} (h : w.ownsRow base 5 1 vb n l) (hk : KeepM B w w') : w'.ownsRow base 5 1 vb n l := by
 refine ⟨h.1, ?_⟩
 rcases h.2 with e | ⟨g, cap, cur, h1, h2, h3, h4⟩
 ·exact .inl e
 ·exact .inr ⟨g, cap, cur, h1, h2, hk.kept _ _ h3 rfl, h4⟩
set_option maxHeartbeats 3200000 in
theorem get_hit (w : World) (h : StoV B w p a r sp m 0 v S) (hfew : S.mem.length ≤ 64) (hc0 : S.c0 ≤ 1000000) (ad bi : Int) (x : Kx) (hx : S.mem[idx ad S.mem]? = some x) (hpos : 0 < x.dat.length) :
  Calls Tryz.prog 25 #[.pointer (some ⟨p, 0, none⟩), .agg #[.int .i64 ad, .int .i64 ((x.hn : Nat) : Int), .int .i64 bi, .string x.sum]] w fun e w' => ∃ vb, e = .returned (.tuple #[vb, .int .i64 0]) ∧ w'.ownsRow w.heap.size 5 1 vb x.hn (rowL x.hn fun j => x.dat.getD j 0) ∧
   (∃ v', StoV B w' p a r sp m 0 v' { S with mem := Sto.cut ad S.mem ++ [x], c0 := S.c0 + 1 }) ∧ KeepM B w w' := by
 obtain ⟨bx, hbx⟩ : ∃ bx, bx = w.heap.size := ⟨_, rfl⟩
 obtain ⟨wa, hwa⟩ : ∃ wa, wa = w.alloc (.cells #[.int .i64 ad, .int .i64 ((x.hn : Nat) : Int), .int .i64 bi, .string x.sum] 73) := ⟨_, rfl⟩
 have hba : Below w.heap.size w wa := by rw [hwa]; exact (Below.refl _ _).alloc (Nat.le_refl _) _
 have HA := Lib.hid (h.below hba)
 have XB : Hid (Blk wa bx 73 #[.int .i64 ad, .int .i64 ((x.hn : Nat) : Int), .int .i64 bi, .string x.sum]) := Lib.hid (by rw [hwa, hbx]; exact Blk.new _ _ _)
 have KA : Hid (KeepM B w wa) := Lib.hid ((KeepM.refl B w).new hba h.le)
 have HE := Lib.hid (enter_any wa HA.out)
 have HWA := Lib.hid hwa
 have HBX := Lib.hid hbx
 have HIN := Lib.hid (⟨hfew, hx, hpos, hc0⟩ : _ ∧ _ ∧ _ ∧ _)
 clear h hba hwa hbx hfew hx hpos hc0
 go_enter_defers Tryz.func25, Tryz.ntmps25
 go_wp2_with fail
 rw [← HWA.out, ← HBX.out]
 refine HE.out.mono ?_
 rintro e w1 ⟨rfl, s1, k1⟩
 have S1 := Lib.hid s1
 have K1 := Lib.hid (KA.out.trans k1)
 have X1 : Hid (Blk w1 bx 73 #[.int .i64 ad, .int .i64 ((x.hn : Nat) : Int), .int .i64 bi, .string x.sum]) := Lib.hid (k1.kept _ _ XB.out rfl)
 clear s1 k1 HE HA XB KA
 go_upto_region 4 with (fail)
 have SD := Lib.hid (S1.out.below (Below.refl w1.heap.size w1).drew)
 have KD := Lib.hid (K1.out.new (Below.refl w1.heap.size w1).drew S1.out.le)
 have HS0 : Hid (Blk w1.drew bx 73 #[.int .i64 ad, .int .i64 ((x.hn : Nat) : Int), .int .i64 bi, .string x.sum]) := Lib.hid (show Blk w1 bx _ _ from X1.out)
 have HRE := Lib.hid (recall_hit (B := B) w1.drew p _ v S.mem ad bi x SD.out.blk rfl SD.out.row HIN.out.1 SD.out.lo HIN.out.2.1 HIN.out.2.2.1)
 clear S1 K1 X1
 refine wp_region_noPanic ?_
 refine region_anyZ (fun W => Blk W bx 73 #[.int .i64 ad, .int .i64 ((x.hn : Nat) : Int), .int .i64 bi, .string x.sum]) 10 (by kernel_rfl) ?_
 refine takeG 0 (.move (.tmp 0)) (some 20) none (.pointer (some ⟨p, 0, none⟩)) (by kernel_rfl) (by kernel_rfl) (by kernel_rfl) (fun _ _ _ h => h) (fun o' wq e hS => exec_move wq e (by kernel_rfl)) HS0.out ?_
 refine takeG 1 (.nilCheck (.tmp 20)) (some 21) none (.pointer (some ⟨p, 0, none⟩)) (by kernel_rfl) (by kernel_rfl) (by kernel_rfl) (fun _ _ _ h => h) (fun o' wq e hS => exec_nil wq e (by kernel_rfl)) HS0.out ?_
 refine takeG 2 (.fieldAddr 103 (.tmp 21) 4) (some 22) none (.pointer (some ⟨p, 5, none⟩)) (by kernel_rfl) (by kernel_rfl) (by kernel_rfl) (fun _ _ _ h => h) (fun o' wq e hS => exec_field (u := .pointer (some ⟨p, 0, none⟩)) wq e (by kernel_rfl) (by kernel_rfl)) HS0.out ?_
 refine takeG 3 (.load 73 (.tmp 3)) (some 23) none (.agg #[.int .i64 ad, .int .i64 ((x.hn : Nat) : Int), .int .i64 bi, .string x.sum]) (by kernel_rfl) (by kernel_rfl) (by kernel_rfl) (fun _ _ _ h => h) (fun o' wq e hS => exec_load (x := (.tmp 3)) e (by kernel_rfl) (load_blk hS Tryz.underlying73 rfl size_ptr)) HS0.out ?_
 refine loneG 4 (.call ⟨.value (.func 70), #[(.tmp 22), (.tmp 23)], #[95, 73]⟩) (some 24) none (by kernel_rfl) (by kernel_rfl) (by kernel_rfl) ?_
 intro o' ho hod
 refine wp_callC (f := 70) (args := #[.pointer (some ⟨p, 5, none⟩), .agg #[.int .i64 ad, .int .i64 ((x.hn : Nat) : Int), .int .i64 bi, .string x.sum]]) (by cases o'; cases ho; kernel_rfl) HRE.out ?_
 rintro ee w2 ⟨vb, rfl, ow, hm⟩
 refine ⟨_, rfl, ?_⟩
 rw [hod]
 clear hod ho
 have HOW := Lib.hid ow
 have HME := Lib.hid hm
 have HS1 : Hid (Blk w2 bx 73 #[.int .i64 ad, .int .i64 ((x.hn : Nat) : Int), .int .i64 bi, .string x.sum]) := Lib.hid (by
  obtain ⟨_, _, _, hk⟩ := hm
  exact hk.kept _ _ HS0.out rfl)
 clear ow hm
 refine ⟨fun _ => HS1.out, ?_⟩
 refine takeG 5 (.move (.tmp 24)) (some 19) none (.tuple #[vb, .bool true]) (by kernel_rfl) (by kernel_rfl) (by kernel_rfl) (fun _ _ _ h => h) (fun o' wq e hS => exec_move wq e (by kernel_rfl)) HS1.out ?_
 refine takeG 6 (.extract (.tmp 19) 0) (some 25) none (vb) (by kernel_rfl) (by kernel_rfl) (by kernel_rfl) (fun _ _ _ h => h) (fun o' wq e hS => exec_ext (vs := #[vb, .bool true]) wq e (by kernel_rfl) (by rfl)) HS1.out ?_
 refine takeG 7 (.extract (.tmp 19) 1) (some 26) none (.bool true) (by kernel_rfl) (by kernel_rfl) (by kernel_rfl) (fun _ _ _ h => h) (fun o' wq e hS => exec_ext (vs := #[vb, .bool true]) wq e (by kernel_rfl) (by rfl)) HS1.out ?_
 refine loneG 8 (.assign (.tmp 25)) (some 6) none (by kernel_rfl) (by kernel_rfl) (by kernel_rfl) ?_
 intro o' ho hod
 refine wp_val (v := vb) (exec_assign _ ho (by kernel_rfl)) ?_
 rw [hod]
 clear hod ho
 refine ⟨fun _ => HS1.out, ?_⟩
 refine lastS 9 (.assign (.tmp 26)) (some 7) (.bool true) (by kernel_rfl) (by kernel_rfl) (by kernel_rfl) HS1.out (fun o' e => exec_assign _ e (by kernel_rfl)) ?_
 refine NoPanic.normal ?_
 simp only [put_some, put_none, List.setIfInBounds_toArray, List.set_cons_succ, List.set_cons_zero]
 obtain ⟨v2, s2, k2⟩ := SD.out.memo HME.out
 have S2 := Lib.hid s2
 have K2 := Lib.hid (KD.out.trans k2)
 have HHC := Lib.hid (hit_any w2 s2 HIN.out.2.2.2)
 have HOB : Hid (w.heap.size ≤ w1.drew.heap.size) := Lib.hid KD.out.below.size
 clear s2 k2 SD KD HS0 HS1 HRE HME
 go_wp2_with fail
 refine HHC.out.mono ?_
 rintro e w3 ⟨rfl, s3, k3⟩
 have S3 := Lib.hid s3
 have K3 := Lib.hid (K2.out.trans k3)
 have HO3 := Lib.hid (ownsRow_mem (HOW.out) k3)
 have HU := Lib.hid (fun u => unlock_deferred ⟨p, 1, none⟩ u w3 (S3.out.blk.cell 1) (S3.out.blk.frozen 1))
 have HP := Lib.hid (s3.put (i := 1) (u := .int .i32 0) (lk' := 0) (S' := { S with mem := Sto.cut ad S.mem ++ [x], c0 := S.c0 + 1 }) rfl rfl rfl rfl rfl)
 clear s3 k3 HHC
 go_wp2_with fail
 refine leaves_cons (f := 27) (args := #[.pointer (some ⟨p, 1, none⟩)]) (by simp) (by simp [go_sem]) ?_
 refine (HU.out _).mono ?_
 rintro e u' w4 ⟨rfl, rfl, rfl⟩
 simp [Leaves, settle, results, Tryz.results25, -List.getD_eq_getElem?_getD]
 exact ⟨ownsRow_base (ownsRow_mem HO3.out HP.out.2) HOB.out, ⟨v2, HP.out.1⟩, K3.out.trans HP.out.2⟩
end
end Sto
end Go.Proofs.YtgbehfkimchglaaGreatDoor
namespace Go.Proofs.YtgbehfkimchglaaGreatDoor
open Go Go.RowKit
set_option maxRecDepth 100000
set_option linter.unusedVariables false
namespace refRack
def textV (x : Nat → Nat) : Value := .string (strB 128 x)
def textL (n : Nat) (X : Nat → Nat → Nat) : List Value := (List.range n).map fun a => textV (X a)
def headL (n : Nat) (H C : Nat → Nat) (m : Nat) : List Value := (List.range n).map fun d => .slice (some ⟨H d, 0, none⟩) m (C d)
def boolL (n : Nat) (G : Nat → Bool) : List Value := (List.range n).map fun d => .bool (G d)
def waitV (v : Wt) : List Value := [.int .i64 (v.d : Int), .int .i64 (v.a : Int), textV v.x]
def waitL (W : Nat → Wt) : Nat → List Value
 | 0 => []
 | n + 1 => waitL W n ++ waitV (W n)
theorem headL_get {n d m : Nat} (H C : Nat → Nat) (h : d < n) : (headL n H C m)[d]? = some (.slice (some ⟨H d, 0, none⟩) m (C d)) := by simp [headL, h]
theorem boolL_get {n d : Nat} (G : Nat → Bool) (h : d < n) : (boolL n G)[d]? = some (.bool (G d)) := by simp [boolL, h]
theorem own_keep {w w' : World} {B n c : Nat} {e : TypeId} {v : Value} {xs : List Value} (h : w.ownsRow B e c v n xs) (hk : ∀ g, v.ownBlock = some g → w'.heap[g]? = w.heap[g]?) : w'.ownsRow B e c v n xs := by
 refine ⟨h.1, ?_⟩
 rcases h.2 with h2 | ⟨g, cap, cur, rfl, h2, h3, h4⟩
 ·exact .inl h2
 ·exact .inr ⟨g, cap, cur, rfl, h2, (hk g rfl).trans h3, h4⟩
theorem own_type {w : World} {B B' n n' c c' : Nat} {e e' : TypeId} {v v' : Value} {xs xs' : List Value} (h : w.ownsRow B e c v n xs) (h' : w.ownsRow B' e' c' v' n' xs') (hne : (e == e') = false) {g : Nat} (hg : v.ownBlock = some g) : v'.ownBlock ≠ some g := fun hg' => by
 rcases h.2 with ⟨rfl, _⟩ | ⟨g1, cap, cur, rfl, _, h3, _⟩
 ·cases hg
 ·rcases h'.2 with ⟨rfl, _⟩ | ⟨g2, cap2, cur2, rfl, _, h3', _⟩
  ·cases hg'
  ·simp [Value.ownBlock] at hg hg'
   subst hg
   subst hg'
   rw [h3] at h3'
   injection h3' with h3'
   injection h3' with _ h3' _
   rw [h3'] at hne
   simp at hne
theorem own_not_blk {w : World} {B n c g : Nat} {e t : TypeId} {v : Value} {xs : List Value} {cs : Array Value} (h : w.ownsRow B e c v n xs) (hb : Blk w g t cs) (hne : (e == t) = false) : v.ownBlock ≠ some g := fun hg => by
 rcases h.2 with ⟨rfl, _⟩ | ⟨g1, cap, cur, rfl, _, h3, _⟩
 ·cases hg
 ·simp [Value.ownBlock] at hg
  subst hg
  unfold Blk at hb
  rw [hb] at h3
  injection h3 with h3
  injection h3 with _ h3 _
  rw [h3] at hne
  simp at hne
theorem own_lt {w : World} {B n c g : Nat} {e : TypeId} {v : Value} {xs : List Value} (h : w.ownsRow B e c v n xs) (hg : v.ownBlock = some g) : g < w.heap.size ∧ B ≤ g := by
 rcases h.2 with ⟨rfl, _⟩ | ⟨g1, cap, cur, rfl, h2, h3, _⟩
 ·cases hg
 ·simp [Value.ownBlock] at hg
  subst hg
  exact ⟨(Array.getElem?_eq_some_iff.1 h3).1, h2⟩
def armI (s : RS) : Int := if s.armed then (s.left : Int) else -1
def cells (s : RS) (vL vG vW : Value) : Array Value := #[vL, vG, vW, .bool s.off, .int .i64 (armI s)]
structure TK (B : Nat) (w : World) (g : Nat) (s : RS) (vL vG vW : Value) (H C : Nat → Nat) : Prop where
 blk : Blk w g 56 (cells s vL vG vW)
 hg : B ≤ g
 heads : w.ownsRow B 154 1 vL s.nd (headL s.nd H C s.ns)
 rows : ∀ d, d < s.nd → w.ownsRow B 9 1 (.slice (some ⟨H d, 0, none⟩) s.ns (C d)) s.ns (textL s.ns (s.last d))
 apart : ∀ d d', d < s.nd → d' < s.nd → d ≠ d' → H d ≠ H d'
 lost : w.ownsRow B 4 1 vG s.nd (boolL s.nd s.gone)
 waits : w.ownsRow B 180 3 vW s.nw (waitL s.W s.nw)
def TAt (B : Nat) (w : World) (g : Nat) (s : RS) : Prop := ∃ vL vG vW H C, TK B w g s vL vG vW H C
section
variable {B : Nat} {w w' : World} {g : Nat} {s : RS} {vL vG vW : Value} {H C : Nat → Nat}
theorem TK.keep (h : TK B w g s vL vG vW H C) (hk : ∀ k, B ≤ k → k < w.heap.size → w'.heap[k]? = w.heap[k]?) : TK B w' g s vL vG vW H C := by
 have ok : ∀ {n c : Nat} {e : TypeId} {v : Value} {xs : List Value}, w.ownsRow B e c v n xs → w'.ownsRow B e c v n xs := fun h1 => own_keep h1 fun k hk1 => hk k (own_lt h1 hk1).2 (own_lt h1 hk1).1
 refine ⟨?_, h.hg, ok h.heads, fun d hd => ok (h.rows d hd), h.apart, ok h.lost, ok h.waits⟩
 have hb := h.blk
 have hl := hb.lt
 unfold Blk at hb ⊢
 exact (hk g h.hg hl).trans hb
theorem TK.below (h : TK B w g s vL vG vW H C) (hb : Below w.heap.size w w') : TK B w' g s vL vG vW H C := h.keep fun k _ hk => hb.block k hk
theorem TAt.below (h : TAt B w g s) (hb : Below w.heap.size w w') : TAt B w' g s := by
 obtain ⟨vL, vG, vW, H, C, h⟩ := h
 exact ⟨vL, vG, vW, H, C, h.below hb⟩
theorem TK.c0 (h : TK B w g s vL vG vW H C) : w.cell? ⟨g, 0, none⟩ = some vL := h.blk.cell 0
theorem TK.shapeL (h : TK B w g s vL vG vW H C) (hn : 0 < s.nd) : ∃ l c, vL = .slice (some ⟨l, 0, none⟩) s.nd c := by
 rcases h.heads.2 with ⟨_, e⟩ | ⟨l, cap, cur, e, _⟩
 ·omega
 ·exact ⟨l, cap, e⟩
end
end refRack
end Go.Proofs.YtgbehfkimchglaaGreatDoor
namespace Go.Proofs.YtgbehfkimchglaaGreatDoor
open Go Go.RowKit
set_option maxRecDepth 100000
set_option linter.unusedVariables false
namespace refRack
def idx (o : Option Nat) : Int := match o with | some i => (i : Int) | none => -1
section
variable {B : Nat} {w w' : World} {g : Nat} {s : RS} {vL vG vW : Value} {H C : Nat → Nat}
theorem TK.head (h : TK B w g s vL vG vW H C) {d : Nat} (hd : d < s.nd) : ∃ l c, vL = .slice (some ⟨l, 0, none⟩) s.nd c ∧ w.cell? ⟨l, d, none⟩ = some (.slice (some ⟨H d, 0, none⟩) s.ns (C d)) ∧ w.frozen? ⟨l, d, none⟩ = false := by
 obtain ⟨l, c, rfl⟩ := h.shapeL (by omega)
 exact ⟨l, c, rfl, by rw [h.heads.cellAt d (by omega), headL_get _ _ hd], h.heads.frozenAt d⟩
end
end refRack
end Go.Proofs.YtgbehfkimchglaaGreatDoor
namespace Go.Proofs.YtgbehfkimchglaaGreatDoor
open Go Go.RowKit
set_option maxRecDepth 100000
set_option linter.unusedVariables false
namespace refRack
def refT (t : TypeId) : Bool := t == 56 || (t == 154 || (t == 9 || (t == 4 || t == 180)))
def refObj : Obj → Bool
 | .cells _ t _ => refT t
 | _ => false
structure KeepR (B : Nat) (w w' : World) : Prop where
 below : Below B w w'
 kept : ∀ (k : Nat) (o : Obj), w.heap[k]? = some o → refObj o = false → w'.heap[k]? = some o
section
variable {B : Nat} {a w w' : World} {g : Nat} {s : RS} {vL vG vW : Value} {H C : Nat → Nat}
end
end refRack
end Go.Proofs.YtgbehfkimchglaaGreatDoor
namespace Go.Proofs.YtgbehfkimchglaaGreatDoor
open Go Go.RowKit
set_option maxRecDepth 100000
set_option linter.unusedVariables false
namespace refRack
section
variable {B : Nat} {w w' : World} {g : Nat} {s : RS} {vL vG vW : Value} {H C : Nat → Nat}
end
end refRack
end Go.Proofs.YtgbehfkimchglaaGreatDoor
namespace Go.Proofs.YtgbehfkimchglaaGreatDoor
set_option maxRecDepth 100000
open Go Go.RowKit
set_option linter.unusedVariables false
end Go.Proofs.YtgbehfkimchglaaGreatDoor
namespace Go.Proofs.YtgbehfkimchglaaGreatDoor
set_option maxRecDepth 100000
open Go.RowKit Go.ChangeShapes Go.WideShapes Go.ChangeAt
set_option linter.unusedVariables false
def I64 (x : Int) : Prop := -9223372036854775808 ≤ x ∧ x ≤ 9223372036854775807
def RdI (w : World) (B : Nat) (A : Option Addr) (n : Nat) (x : Nat → Int) : Prop :=
 ∀ i, i < n → ∃ b o, A = some ⟨b, o, none⟩ ∧ b < B ∧ w.cell? ⟨b, o + i, none⟩ = some (.int .i64 (x i)) ∧ I64 (x i)
def RdO (w : World) (B : Nat) (A : Option Addr) (n : Nat) (x : Nat → Bool) : Prop :=
 ∀ i, i < n → ∃ b o, A = some ⟨b, o, none⟩ ∧ b < B ∧ w.cell? ⟨b, o + i, none⟩ = some (.bool (x i))
theorem rdi_of_cells {w : World} {a : Addr} {n : Nat} {zs : List Int} (hn : n ≤ zs.length) (hc : ∀ i, i < zs.length → w.cell? (a.add i) = some (.int .i64 (zs.getD i 0))) (hw : ∀ z ∈ zs, (Lit.int .i64 z).wf = true) :
  RdI w w.heap.size (some a) n (fun j => zs.getD j 0) := by
 intro j hj
 obtain ⟨b, o, sp⟩ := a
 have h0 := hc j (by omega)
 have hsp : sp = none := by
  have h1 := hc 0 (by omega)
  have h2 := World.cell?_spot h1
  simpa [Addr.add] using h2
 subst hsp
 rw [add_plain] at h0
 exact ⟨b, o, rfl, block_lt_of_cell h0, h0, bounds_i64 (hw _ (getD_mem (show j < zs.length by omega)))⟩
theorem rdo_of_cells {w : World} {a : Addr} {n c : Nat} {zs : Nat → Bool} (hn : n ≤ c) (hc : ∀ i, i < c → w.cell? (a.add i) = some (.bool (zs i))) :
  RdO w w.heap.size (some a) n zs := by
 intro j hj
 obtain ⟨b, o, sp⟩ := a
 have h0 := hc j (by omega)
 have hsp : sp = none := by
  have h1 := hc 0 (by omega)
  have h2 := World.cell?_spot h1
  simpa [Addr.add] using h2
 subst hsp
 rw [add_plain] at h0
 exact ⟨b, o, rfl, block_lt_of_cell h0, h0⟩
section
variable {H : Type} {enc : TypeId × Value → H} {P : Program} {W : World} {base : Nat} {held : Bool}
theorem rdi_of_trod {t e : TypeId} {fuel len cap : Nat} {a : Option Addr} {x : DataW H × List MemPlace} (ht : P.underlying t = some (.slice e)) (he : P.underlying e = some (.int .i64)) (hc : P.cellsOf e = 1)
  (h : DataW.trod enc P W base (fun _ => true) held fuel t (Value.slice a len cap).cells.toList = some x) : ∃ y, RdI W W.heap.size a len y ∧ len ≤ cap ∧ cap ≤ maxLen := by
 rcases open_ints ht he hc h with ⟨hcs, _⟩ | ⟨x, l, c, zs, hcs, _, hl, hm, hz, _, hcell, hwz⟩
 ·simp [Value.cells] at hcs
  obtain ⟨rfl, rfl, rfl⟩ := hcs
  exact ⟨fun _ => 0, fun j hj => absurd hj (by omega), by omega, by omega⟩
 ·simp [Value.cells] at hcs
  obtain ⟨rfl, rfl, rfl⟩ := hcs
  simp at hz
  exact ⟨_, rdi_of_cells (by omega) hcell hwz, hl, hm⟩
theorem rdo_of_trod {t e : TypeId} {fuel len cap : Nat} {a : Option Addr} {x : DataW H × List MemPlace} (ht : P.underlying t = some (.slice e)) (he : P.underlying e = some .bool) (hc : P.cellsOf e = 1)
  (h : DataW.trod enc P W base (fun _ => true) held fuel t (Value.slice a len cap).cells.toList = some x) : ∃ y, RdO W W.heap.size a len y ∧ len ≤ cap ∧ cap ≤ maxLen := by
 rcases Go.Deep.open_bools ht he hc h with ⟨hcs, _⟩ | ⟨x, l, c, zs, hcs, _, hl, hm, _, hcell⟩
 ·simp [Value.cells] at hcs
  obtain ⟨rfl, rfl, rfl⟩ := hcs
  exact ⟨fun _ => false, fun j hj => absurd hj (by omega), by omega, by omega⟩
 ·simp [Value.cells] at hcs
  obtain ⟨rfl, rfl, rfl⟩ := hcs
  exact ⟨_, rdo_of_cells hl hcell, hl, hm⟩
end
end Go.Proofs.YtgbehfkimchglaaGreatDoor
namespace Go.Proofs.YtgbehfkimchglaaGreatDoor
open Go Go.RowKit
set_option maxRecDepth 100000
set_option linter.unusedVariables false
namespace refRack
section
variable {B : Nat} {w w' : World} {g : Nat} {s : RS} {vL vG vW : Value} {H C : Nat → Nat}
end
end refRack
end Go.Proofs.YtgbehfkimchglaaGreatDoor
namespace Go.Proofs.YtgbehfkimchglaaGreatDoor
open Go Go.RowKit
set_option maxRecDepth 100000
set_option linter.unusedVariables false
namespace refRack
section
variable {B : Nat} {w w' : World} {g : Nat} {s : RS} {vL vG vW : Value} {H C : Nat → Nat}
end
end refRack
end Go.Proofs.YtgbehfkimchglaaGreatDoor
namespace Go.Proofs.YtgbehfkimchglaaGreatDoor
open Go Go.RowKit
set_option maxRecDepth 100000
set_option linter.unusedVariables false
namespace refRack
section
variable {B : Nat} {w w' : World} {g : Nat} {s : RS} {vL vG vW : Value} {H C : Nat → Nat}
end
end refRack
end Go.Proofs.YtgbehfkimchglaaGreatDoor
namespace Go.Proofs.YtgbehfkimchglaaGreatDoor
open Go Go.RowKit
set_option maxRecDepth 100000
set_option linter.unusedVariables false
namespace refRack
theorem own_shape {w : World} {B n c : Nat} {e : TypeId} {v : Value} {xs : List Value} (h : w.ownsRow B e c v n xs) : ∃ A c', v = .slice A n c' := by
 rcases h.2 with ⟨e1, e2⟩ | ⟨l, cap, cur, e, _⟩
 ·exact ⟨none, 0, by rw [e1, e2]⟩
 ·exact ⟨_, cap, e⟩
section
variable {B : Nat} {w w' : World} {g : Nat} {s : RS} {vL vG vW : Value} {H C : Nat → Nat}
end
end refRack
end Go.Proofs.YtgbehfkimchglaaGreatDoor
namespace Go.Proofs.YtgbehfkimchglaaGreatDoor
open Go Go.RowKit
set_option maxRecDepth 100000
set_option linter.unusedVariables false
namespace refRack
section
variable {B : Nat} {w w' : World} {g : Nat} {s : RS} {vL vG vW : Value} {H C : Nat → Nat}
end
theorem info_strR : (Tryz.prog.info? 9).map (fun i => (i.zero, i.size, i.bytes)) = some (some (.string ⟨#[]⟩), 1, 16) := by kernel_rfl
theorem wpList_append_strR {w : World} {ops : Array Oper} {rest : List Oper} {o : Oper} {a : Act} {Q : Exit → Act → World → Prop} (hgd : o.guard = none) (s x : Operand)
  (ho : o.op = .call { callee := .builtin .append, args := #[s, x], argTypes := #[154, 154] }) {base n c : Nat} {v : Value} {xs : List Value} {ad : Addr} {Z : ByteArray} (hs : a.eval s = v) (hx : a.eval x = .slice (some ad) 1 c)
  (hown : w.ownsRow base 9 1 v n xs) (hnews : ∀ j u, [Value.string Z][j]? = some u → w.cell? (ad.add j) = some u) (hn : n + 1 ≤ 2000000) (hb : base ≤ w.heap.size)
  (h : ∀ v' w', w'.ownsRow base 9 1 v' (n + 1) (xs ++ [Value.string Z]) → w.grownBy w' v.ownBlock → wpList Tryz.prog ops Q rest (a.put o.dst v') w') : wpList Tryz.prog ops Q (o :: rest) a w := by
 obtain ⟨i0, hi, hz0, hz1, hz2⟩ := info_parts info_strR
 exact wpList_append_own_at (P := Tryz.prog) w hgd s x 154 ho base 9 i0 _ 1 16 Tryz.underlying154 hi hz0 hz1 hz2 rfl (by omega) v n xs hs hown ad 1 c [Value.string Z] hx rfl hnews (fun u hu => by simp at hu; subst hu; rfl) (by unfold maxLen; omega) (by omega) hb fun v' w' h1 h2 _ _ => h v' w' h1 h2
theorem textL_push (n : Nat) (X : Nat → Nat → Nat) : textL n X ++ [textV (X n)] = textL (n + 1) X := by simp [textL, List.range_succ]
set_option maxHeartbeats 800000 in
theorem blank_k (w : World) (n : Nat) (hn : n ≤ 2000) :
  Calls Tryz.prog 79 #[.int .i64 (n : Int)] w fun e w' => ∃ v, e = .returned v ∧ w'.ownsRow w.heap.size 9 1 v n (textL n fun _ => zeros) ∧ Below w.heap.size w w' := by
 have mk := fun W => make_bytes 128 (by omega) W (128 : Int) rfl
 have cz : ∀ W : World, (convert 76 9 (.slice (some ⟨W.heap.size, 0, none⟩) 128 128)).run Tryz.prog (W.alloc (.cells (rowArr 128 fun _ => 0) 5)) = .ok (textV zeros) (W.alloc (.cells (rowArr 128 fun _ => 0) 5)) := fun W => (Row8.of_blk (Blk.new W 5 (rowArr 128 zeros)) : Row8 (W.alloc (.cells (rowArr 128 fun _ => 0) 5)) (.slice (some ⟨W.heap.size, 0, none⟩) 128 128) 128 zeros).conv
 have czw := cz w
 have L0 := Lib.hid ((Below.refl w.heap.size w).alloc (Nat.le_refl _) (.cells (rowArr 128 fun _ => 0) 5))
 clear cz
 obtain ⟨Z, hZ⟩ : ∃ Z, Z = strB 128 zeros := ⟨_, rfl⟩
 unfold textV at czw
 rw [← hZ] at czw
 have HZ := Lib.hid hZ
 clear hZ
 go_enter Tryz.func79, Tryz.ntmps79
 go_wp2_with fail
 clear mk czw
 generalize w.alloc (.cells (rowArr 128 fun _ => 0) 5) = w0 at *
 have N0 : Hid (w0.ownsRow w.heap.size 9 1 (.slice none 0 0) 0 (textL 0 fun _ => zeros)) := Lib.hid ⟨rfl, .inl ⟨rfl, rfl⟩⟩
 go_loopw [4, 5] (fun o x wr => ∃ i : Nat, i ≤ n ∧ x = .int .i64 i ∧ Hid (wr.ownsRow w.heap.size 9 1 o i (textL i fun _ => zeros)) ∧ Hid (Below w.heap.size w wr)) (fun _ x _ => n - (intOf x).toNat)
 case atStart => exact ⟨0, by omega, rfl, N0, L0⟩
 case round =>
  obtain ⟨i, hi, rfl, N1, L1⟩ := hrel
  clear N0 L0
  by_cases hlt : i < n
  ·have i1 : (i : Int) < (n : Int) := by omega
   have bA : Below wr.heap.size wr (wr.alloc (.cells #[.string Z] 9)) := (Below.refl _ _).alloc (Nat.le_refl _) _
   have NA := Lib.hid (own_keep N1.out (w' := wr.alloc (.cells #[.string Z] 9)) fun g1 hg1 => bA.block g1 (own_lt N1.out hg1).1)
   have LA := Lib.hid (L1.out.trans (bA.mono L1.out.size))
   have HW : Hid (∀ j u, [Value.string Z][j]? = some u → (wr.alloc (.cells #[.string Z] 9)).cell? ((⟨wr.heap.size, 0, none⟩ : Addr).add j) = some u) := Lib.hid (cell_one_new wr (.string Z) 9)
   have HB : Hid (w.heap.size ≤ (wr.alloc (.cells #[.string Z] 9)).heap.size) := Lib.hid LA.out.size
   have HN : Hid (i + 1 ≤ 2000000) := Lib.hid (by omega)
   clear N1 L1 bA
   go_wp2_with ((with_reducible refine wpList_append_strR (Z := Z) rfl (.tmp 13) (.tmp 15) rfl rfl rfl NA.out HW.out HN.out HB.out ?_); intro v' w3 hw3 hg3; refine of_hid ?_)
   refine Lib.hid ?_
   have N2 : Hid (w3.ownsRow w.heap.size 9 1 v' (i + 1) (textL (i + 1) fun _ => zeros)) := Lib.hid (by
    rw [← textL_push]
    show w3.ownsRow w.heap.size 9 1 v' (i + 1) (textL i (fun _ => zeros) ++ [.string (strB 128 zeros)])
    rw [← HZ.out]
    exact hw3)
   have L2 : Hid (Below w.heap.size w w3) := Lib.hid (LA.out.trans ⟨hg3.os, hg3.tape, hg3.output, hg3.size, fun k hk => hg3.block k (by have := HB.out; omega) (fun e => by have := (own_lt NA.out e.symm).2; omega)⟩)
   obtain ⟨A3, c3, rfl⟩ := own_shape hw3
   clear hw3 hg3 NA LA HW HB HN
   go_wp2_with fail
   go_roundw
   case rel => exact ⟨i + 1, by omega, by go_num, N2, L2⟩
   case measure => simp [intOf]; omega
  ·obtain rfl : n = i := by omega
   clear hlt hi
   go_wp2_with fail
   go_ret
   exact ⟨_, rfl, N1.out, L1.out⟩
end refRack
end Go.Proofs.YtgbehfkimchglaaGreatDoor
namespace Go.Proofs.YtgbehfkimchglaaGreatDoor
open Go Go.RowKit
set_option maxRecDepth 100000
set_option linter.unusedVariables false
namespace refRack
theorem own_some {w : World} {B n c : Nat} {e : TypeId} {v : Value} {xs : List Value} (h : w.ownsRow B e c v n xs) (hn : 0 < n) : ∃ l c', v = .slice (some ⟨l, 0, none⟩) n c' := by
 rcases h.2 with ⟨e1, e2⟩ | ⟨l, cap, cur, e, _⟩
 ·omega
 ·exact ⟨l, cap, e⟩
section
variable {B : Nat} {w w' : World} {g : Nat} {s : RS} {vL vG vW : Value} {H C : Nat → Nat}
end
end refRack
end Go.Proofs.YtgbehfkimchglaaGreatDoor
