/-
  'sha.begin' and '(*sha.state).add' by contracts: the whole blocks of some bytes are taken into the state. Conditions: the bytes lie apart from the state; the table of roots reads as it was laid.
-/
import Derived.Test.YtllglgkphlkopaaDoorShaMix
import Derived.Test.YtllglgkphlkopaaDoorBytes
namespace Go.Proofs.YtllglgkphlkopaaDoor
open Go.RowKit
set_option linter.unusedVariables false

theorem RdB.place {w : World} {B n : Nat} {A : Option Addr} {X : Nat → Nat} (h : RdB w B A n X) (hn : 0 < n) : ∃ g o, A = some ⟨g, o, none⟩ ∧ g < B ∧ RdA w g o n X := by
  obtain ⟨g, o, rfl, hg, _, _⟩ := h 0 hn
  refine ⟨g, o, rfl, hg, fun j hj => ?_⟩
  obtain ⟨g', o', e, _, h3, _⟩ := h j hj
  injection e with e
  injection e with e1 e2
  subst e1; subst e2
  exact h3
theorem RdA.only {w w' : World} {g o n b : Nat} {X : Nat → Nat} (h : RdA w g o n X) (ho : Only b w w') (hne : g ≠ b) : RdA w' g o n X := fun j hj => ho.cell (h j hj) hne
theorem RdA.part {w : World} {g o n : Nat} {X : Nat → Nat} (h : RdA w g o n X) (s m : Nat) (hs : s + m ≤ n) : RdA w g (o + s) m (fun j => X (s + j)) := fun j hj => by
  rw [Nat.add_assoc]
  exact h (s + j) (by omega)
theorem zero_state (w : World) : (Sem.run Tryd.prog (zeroValue 53) w) = .ok (.agg (wArr 8 fun _ => 0)) w := by kernel_rfl
theorem isize_state : (Tryd.prog.info? 53).map (·.size) = some 8 := by kernel_rfl
theorem init_words : (#[.int .u32 1779033703, .int .u32 3144134277, .int .u32 1013904242, .int .u32 2773480762, .int .u32 1359893119, .int .u32 2600822924, .int .u32 528734635, .int .u32 1541459225] : Array Value) = wArr 8 M.init.get := by kernel_rfl

set_option maxHeartbeats 400000 in
theorem begin_any (w : World) : Calls Tryd.prog 22 #[] w fun e w' => e = .returned (.agg (wArr 8 M.init.get)) ∧ Below w.heap.size w w' := by
  have hz : ∀ w : World, (Sem.run Tryd.prog (zeroValue 53) w) = .ok (.agg #[.int .u32 0, .int .u32 0, .int .u32 0, .int .u32 0, .int .u32 0, .int .u32 0, .int .u32 0, .int .u32 0]) w := fun w => by kernel_rfl
  go_enter Tryd.func22, Tryd.ntmps22
  go_wp2_with fail
  rw [init_words]
  have HV := Lib.hid (loadVar_blk (Blk.new w 53 (wArr 8 M.init.get)) Tryd.underlying53 rfl (by rw [wArr_size]; exact isize_state))
  have L0 := Lib.hid ((Below.refl _ _).alloc (Nat.le_refl _) (.cells (wArr 8 M.init.get) 53) : Below w.heap.size w _)
  refine bodyPost_ret (results_cell rfl rfl HV.out) rfl ?_
  exact ⟨rfl, L0.out⟩

set_option maxRecDepth 100000 in
set_option maxHeartbeats 1600000 in
theorem add_any (b : Nat) (s : M.S8) (A : Option Addr) (n c : Nat) (X : Nat → Nat) (B : Nat) (w : World) (hb : Blk w b 53 (wArr 8 s.get)) (hs : s.ok) (hx : RdB w B A n X) (hX : ∀ j, X j < 256) (hB : B ≤ w.heap.size) (hne : ∀ g o, 0 < n → A = some ⟨g, o, none⟩ → g ≠ b)
    (hnc : n ≤ c) (hcm : c ≤ maxLen) (hl : Laid w) (hb0 : 0 < b) :
    Calls Tryd.prog 23 #[.pointer (some ⟨b, 0, none⟩), .slice A n c] w fun e w' => e = .returned (.tuple #[]) ∧ Blk w' b 53 (wArr 8 (M.addB s X (n / 64)).get) ∧ Only b w w' := by
  unfold maxLen at hcm
  have hA : Hid (∃ g o, g ≠ b ∧ (0 < n → A = some ⟨g, o, none⟩ ∧ g < w.heap.size ∧ RdA w g o n X)) := by
    by_cases hn : 0 < n
    · obtain ⟨g, o, rfl, h2, h3⟩ := hx.place hn
      exact ⟨g, o, hne _ _ hn rfl, fun _ => ⟨rfl, by omega, h3⟩⟩
    · exact ⟨b + 1, 0, by omega, fun h => absurd h hn⟩
  obtain ⟨g, o, hgb, hA⟩ := hA
  have HA := Lib.hid hA
  have B0 : Hid (Blk w b 53 (wArr 8 (M.addB s X 0).get)) := hb
  have L0 := Lib.hid hl
  have hbl := hb.lt
  clear hA hx hne hb hl
  go_enter Tryd.func23, Tryd.ntmps23
  go_wp2_with fail
  go_loopw [1] (fun v wr => ∃ (k m d : Nat) (A' : Option Addr), v = .slice A' m d ∧ m + 64 * k = n ∧ d + 64 * k = c ∧ (0 < m → A' = some ⟨g, o + 64 * k, none⟩) ∧ Hid (Blk wr b 53 (wArr 8 (M.addB s X k).get)) ∧ Hid (Laid wr) ∧ Hid (Only b w wr)) (fun v _ => match v with | .slice _ m _ => m | _ => 0)
  case atStart => exact ⟨0, n, c, A, rfl, by omega, by omega, fun h => (HA.out h).1, B0, L0, Only.refl b w⟩
  case round =>
    obtain ⟨k, m, d, A', rfl, hm, hd, hA', B1, L1, O1⟩ := hrel
    clear B0 L0
    by_cases hge : 64 ≤ m
    · obtain ⟨rfl⟩ := hA' (by omega)
      have t1 : (64 : Int) ≤ (m : Int) := by omega
      have t2 : (64 : Int) ≤ (d : Int) := by omega
      have hge' : 64 ≤ d := by omega
      obtain ⟨_, hgw, hrd⟩ := HA.out (by omega)
      have HR := Lib.hid ((hrd.only O1.out hgb).part (64 * k) 64 (by omega))
      have hgs : g < wr.heap.size := Nat.lt_of_lt_of_le hgw O1.out.size
      clear hrd hgw hA'
      go_wp2_with fail
      refine (spread_any g (o + 64 * k) d (fun j => X (64 * k + j)) wr (fun j => hX _) hge' (by unfold maxLen; omega) hgs HR.out).mono ?_
      rintro e w2 ⟨rfl, hb2⟩
      have B2 := Lib.hid (B1.out.below hb2 B1.out.lt)
      have L2 := Lib.hid (L1.out.below hb2 L1.out.pos)
      have O2 := Lib.hid (O1.out.trans (Only.of_below hb2 b))
      clear hb2 B1 L1 O1 HR
      go_wp2_with fail
      refine (mix_any b (M.addB s X k) (M.wd fun j => X (64 * k + j)) w2 B2.out (M.addB_ok hs X k) (fun t _ => M.wd_lt (fun j => hX _) t) L2.out hb0).mono ?_
      rintro e w3 ⟨rfl, hb3, ho3⟩
      have B3 : Hid (Blk w3 b 53 (wArr 8 (M.addB s X (k + 1)).get)) := hb3
      have L3 := Lib.hid (L2.out.only ho3 hb0)
      have O3 := Lib.hid (O2.out.trans ho3)
      clear hb3 ho3 B2 L2 O2
      go_wp2_with fail
      refine ⟨⟨k + 1, m - 64, d - 64, _, rfl, by omega, by omega, fun h => ?_, B3, L3, O3⟩, ?_⟩
      · rw [if_neg (by omega), show o + 64 * (k + 1) = o + 64 * k + 64 by omega]
      · show m - 64 < m; omega
    · have hk : k = n / 64 := by omega
      have t1 : (m : Int) < 64 := by omega
      clear hge
      go_wp2_with fail
      go_end0
      rw [← hk]
      exact ⟨rfl, B1.out, O1.out⟩
end Go.Proofs.YtllglgkphlkopaaDoor
