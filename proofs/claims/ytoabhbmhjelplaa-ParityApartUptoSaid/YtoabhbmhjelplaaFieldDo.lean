/-
  '(*sync.Once).Do' handed a field's own 'fill', and '(*field.Field).ready': a blank field, a full one, none. Conditions: the field is blank or full, its lock free.
-/
import Derived.Test.YtoabhbmhjelplaaFieldFillM
import Derived.Laws.NewBlocks
namespace Go.Proofs.Ytoabhbmhjelplaa
open Go.RowKit
set_option maxRecDepth 100000

set_option maxRecDepth 100000 in
set_option maxHeartbeats 800000 in
theorem slow_any (b : Nat) (w : World) (hb : Blk w b 61 (fcells 0 0 0)) :
    Calls Try.prog 49 #[.pointer (some ⟨b, 0, none⟩), .func (.func 46) #[.pointer (some ⟨b, 0, none⟩)] #[]] w fun e w' => e = .returned (.tuple #[]) ∧ Blk w' b 61 (fcells 1 0 255) ∧ Only b w w' := by
  have hb1 : Blk (w.setCell ⟨b, 1, none⟩ (.int .i32 1)) b 61 (fcells 0 1 0) := by
    have h := hb.set_ 1 (.int .i32 1)
    rwa [fcells_set_state] at h
  have ho1 : Only b w (w.setCell ⟨b, 1, none⟩ (.int .i32 1)) := (Only.refl b w).setCell 1 _
  have h1 : w.cell? ⟨b, 1, none⟩ = some (.int .i32 0) := (hb.cell 1).trans (fcells_state _ _ _)
  have f1 : w.frozen? ⟨b, 1, none⟩ = false := hb.frozen 1
  have hl := run_call_load (P := Try.prog) Try.func50 (by kernel_rfl) (by kernel_rfl) (by kernel_rfl) .u32 (by kernel_rfl) (w := w.setCell ⟨b, 1, none⟩ (.int .i32 1)) (a := ⟨b, 0, none⟩) (x := 0) ((hb1.cell 0).trans (fcells_done _ _ _))
  have hnot : ∀ (x : Bool) (w : World), (Op.unary .not (.bool x)).run Try.prog w = .ok (.bool (!x)) w := fun _ _ => rfl
  go_enter_defers Try.func49, Try.ntmps49
  go_wp2_with (first | (go_at_call 51; refine (lock_free ⟨b, 1, none⟩ _ h1 f1).mono ?_; rintro e w' ⟨rfl, rfl⟩) | (go_at_call 48; go_in))
  refine (fill_any b 0 1 _ hb1).mono ?_
  rintro e w2 ⟨rfl, hb2, ho2⟩
  have ho : Only b w w2 := ho1.trans ho2
  clear hl ho1 ho2 hb1 h1 f1 hb
  go_wp2_with fail
  -- the door: two deferred calls, the last laid first
  refine leaves_cons (f := 53) (args := #[.pointer (some ⟨b, 0, none⟩), .bool true]) (by simp) (by simp [go_sem]) ?_
  refine (store_deferred ⟨b, 0, none⟩ (.int .u32 0) .returning _ ((hb2.cell 0).trans (fcells_done _ _ _)) (hb2.frozen 0)).mono ?_
  rintro e u' w3 ⟨rfl, rfl, rfl⟩
  have hb3 : Blk (w2.drew.setCell ⟨b, 0, none⟩ (.int .u32 1)) b 61 (fcells 1 1 255) := by
    have h := hb2.drew.set_ 0 (.int .u32 1)
    rwa [fcells_set_done] at h
  have ho3 : Only b w (w2.drew.setCell ⟨b, 0, none⟩ (.int .u32 1)) := ho.drew.setCell 0 _
  refine leaves_cons (f := 52) (args := #[.pointer (some ⟨b, 1, none⟩)]) (by simp [settle]) (by simp [go_sem]) ?_
  refine (unlock_deferred ⟨b, 1, none⟩ _ _ ((hb3.cell 1).trans (fcells_state _ _ _)) (hb3.frozen 1)).mono ?_
  rintro e u' w4 ⟨rfl, rfl, rfl⟩
  have hb4 : Blk ((w2.drew.setCell ⟨b, 0, none⟩ (.int .u32 1)).setCell ⟨b, 1, none⟩ (.int .i32 0)) b 61 (fcells 1 0 255) := by
    have h := hb3.set_ 1 (.int .i32 0)
    rwa [fcells_set_state] at h
  simp [Leaves, settle, results, Try.results49]
  exact ⟨hb4, ho3.setCell 1 _⟩

/-- 'Do' of a blank field: its tables are worked out. -/
theorem do_first (b : Nat) (w : World) (hb : Blk w b 61 (fcells 0 0 0)) :
    Calls Try.prog 45 #[.pointer (some ⟨b, 0, none⟩), .func (.func 46) #[.pointer (some ⟨b, 0, none⟩)] #[]] w fun e w' => e = .returned (.tuple #[]) ∧ Blk w' b 61 (fcells 1 0 255) ∧ Only b w w' := by
  have hl := run_call_load (P := Try.prog) Try.func50 (by kernel_rfl) (by kernel_rfl) (by kernel_rfl) .u32 (by kernel_rfl) (w := w) (a := ⟨b, 0, none⟩) (x := 0) ((hb.cell 0).trans (fcells_done _ _ _))
  have hnot : ∀ (x : Bool) (w : World), (Op.unary .not (.bool x)).run Try.prog w = .ok (.bool (!x)) w := fun _ _ => rfl
  go_enter Try.func45, Try.ntmps45
  go_wp2_with (go_at_call 48; go_in)
  refine (slow_any b _ hb).mono ?_
  rintro e w2 ⟨rfl, hb2, ho2⟩
  clear hl hb
  go_wp2_with fail
  go_end0
  exact ⟨rfl, hb2, ho2⟩

/-- 'Do' of a full field: nothing is done. -/
theorem do_again (b : Nat) (fv : Value) (w : World) (hb : Blk w b 61 (fcells 1 0 255)) :
    Calls Try.prog 45 #[.pointer (some ⟨b, 0, none⟩), fv] w fun e w' => e = .returned (.tuple #[]) ∧ w = w' := by
  have hl := run_call_load (P := Try.prog) Try.func50 (by kernel_rfl) (by kernel_rfl) (by kernel_rfl) .u32 (by kernel_rfl) (w := w) (a := ⟨b, 0, none⟩) (x := 1) ((hb.cell 0).trans (fcells_done _ _ _))
  have hnot : ∀ (x : Bool) (w : World), (Op.unary .not (.bool x)).run Try.prog w = .ok (.bool (!x)) w := fun _ _ => rfl
  go_enter Try.func45, Try.ntmps45
  go_wp2_with (go_at_call 48; go_in)
  go_end0
  exact ⟨rfl, rfl⟩

/-- A field's zero value, as the program lays it. -/
theorem build_field (w : World) : (Sem.run Try.prog (zeroValue 61) w) = .ok (.agg (fcells 0 0 0)) w := by kernel_rfl
end Go.Proofs.Ytoabhbmhjelplaa
