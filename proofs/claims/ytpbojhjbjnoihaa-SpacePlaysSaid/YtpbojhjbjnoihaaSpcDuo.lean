/-
  A space and the document's side by side: what each call of the one or the other leaves. Numbers of 64 bits.
-/
import Derived.Test.YtpbojhjbjnoihaaRefTake
import Derived.Test.YtpbojhjbjnoihaaLike
namespace Go.Proofs.Ytpbojhjbjnoihaa
open Go Go.RowKit
set_option maxRecDepth 100000
set_option linter.unusedVariables false
namespace Rf
open Sp
theorem RefS.frm {O2 O : Nat → Prop} {w w' : World} {rb : Nat} {t : SS} (h : RefS w O2 rb t) (hf : Frm O w w') (hd : ∀ g, O2 g → ¬ O g) : RefS w' O2 rb t := by
  obtain ⟨h0, f, ⟨g, c, cs, h1, h2, h3, h4, h5⟩, h6⟩ := h
  exact ⟨h0, f, ⟨g, c, cs, (hf.block _ h1.lt (hd _ h4)).trans h1, (hf.block _ h2.lt (hd _ h5)).trans h2, h3, h4, h5⟩, h6⟩
/-- the space at b keeps s, the document's at rb keeps t, apart from one another -/
def Duo (O2 : Nat → Prop) (B : Nat) (w0 w : World) (b m rb : Nat) (s t : SS) : Prop :=
  ∃ O, SpO O w b m s ∧ RefS w O2 rb t ∧ (∀ g, O g → B ≤ g ∧ ¬ O2 g) ∧ (∀ g, O2 g → B ≤ g ∧ g < w.heap.size) ∧ B ≤ w.heap.size ∧ Below B w0 w
def Tri (O2 : Nat → Prop) (B : Nat) (w0 w : World) (b m b2 m2 rb : Nat) (s0 s t : SS) : Prop :=
  ∃ O O', SpO O w b m s0 ∧ SpO O' w b2 m2 s ∧ RefS w O2 rb t ∧ (∀ g, O g → B ≤ g ∧ ¬ O2 g ∧ ¬ O' g) ∧ (∀ g, O' g → B ≤ g ∧ ¬ O2 g) ∧ (∀ g, O2 g → B ≤ g ∧ g < w.heap.size) ∧ B ≤ w.heap.size ∧ Below B w0 w
section
variable {O2 : Nat → Prop} {B : Nat} {w0 w w' : World} {b m rb b2 m2 : Nat} {s s' s0 t t' : SS} {f : FuncId} {args : Array Value} {A : Value}
theorem Duo.keep (h : Duo O2 B w0 w b m rb s t) (hb : Below w.heap.size w w') : Duo O2 B w0 w' b m rb s t := by
  obtain ⟨O, h1, h2, h3, h4, h5, h6⟩ := h
  exact ⟨O, h1.keep hb.size fun g hg => hb.block g (h1.1 g hg), h2.keep hb, h3, fun g hg => ⟨(h4 g hg).1, Nat.lt_of_lt_of_le (h4 g hg).2 hb.size⟩, Nat.le_trans h5 hb.size, h6.trans (hb.mono h5)⟩
theorem Duo.spc (h : Duo O2 B w0 w b m rb s t) (hc : ∀ O, SpO O w b m s → Calls Try.prog f args w fun e w' => e = .returned A ∧ SpO (More O w w') w' b m s' ∧ Frm O w w') :
    Calls Try.prog f args w fun e w' => e = .returned A ∧ Duo O2 B w0 w' b m rb s' t := by
  obtain ⟨O, h1, h2, h3, h4, h5, h6⟩ := h
  refine (hc O h1).mono ?_
  rintro e w' ⟨e1, e2, e3⟩
  refine ⟨e1, _, e2, h2.frm e3 (fun g hg ho => (h3 g ho).2 hg), fun g hg => ?_, fun g hg => ⟨(h4 g hg).1, Nat.lt_of_lt_of_le (h4 g hg).2 e3.size⟩, Nat.le_trans h5 e3.size, h6.trans (e3.below (fun g hg => (h3 g hg).1) h5)⟩
  rcases hg with hg | hg
  · exact h3 g hg
  · exact ⟨by omega, fun ho => by have := (h4 g ho).2; omega⟩
theorem Duo.rfc (h : Duo O2 B w0 w b m rb s t) (hc : RefS w O2 rb t → Calls Try.prog f args w fun e w' => e = .returned A ∧ RefS w' O2 rb t' ∧ Frm O2 w w') :
    Calls Try.prog f args w fun e w' => e = .returned A ∧ Duo O2 B w0 w' b m rb s t' := by
  obtain ⟨O, h1, h2, h3, h4, h5, h6⟩ := h
  refine (hc h2).mono ?_
  rintro e w' ⟨e1, e2, e3⟩
  exact ⟨e1, O, h1.beside e3 (fun g hg => (h3 g hg).2), e2, h3, fun g hg => ⟨(h4 g hg).1, Nat.lt_of_lt_of_le (h4 g hg).2 e3.size⟩, Nat.le_trans h5 e3.size, h6.trans (e3.below (fun g hg => (h4 g hg).1) h5)⟩
theorem Duo.alike (h : Duo O2 B w0 w b m rb s s) : Calls Try.prog 21 #[.pointer (some ⟨b, 0, none⟩), .pointer (some ⟨rb, 0, none⟩)] w fun e w' => e = .returned (.bool true) ∧ Duo O2 B w0 w' b m rb s s := by
  have h' := h
  obtain ⟨O, h1, h2, h3, h4, h5, h6⟩ := h
  exact (alike_at h1 h2).mono fun e w' ⟨e1, e2⟩ => ⟨e1, h'.keep e2⟩
theorem Duo.below (h : Duo O2 B w0 w b m rb s t) : Below B w0 w := by obtain ⟨O, h1, h2, h3, h4, h5, h6⟩ := h; exact h6
theorem Duo.copy (h : Duo O2 B w0 w b m rb s t) : Calls Try.prog 10 #[.pointer (some ⟨b, 0, none⟩)] w fun e w' => ∃ b2 m2, e = .returned (.pointer (some ⟨b2, 0, none⟩)) ∧ Tri O2 B w0 w' b m b2 m2 rb s s t := by
  obtain ⟨O, h1, h2, h3, h4, h5, h6⟩ := h
  have h1' := h1
  obtain ⟨q1, q2, q3, F, V, hs, hv⟩ := h1'
  refine (dup_sp hs (Nat.zero_le _)).mono ?_
  rintro e w' ⟨b2, m2, F2, V2, e1, e2, e3⟩
  have hso : SpA w.heap.size w' b2 m2 s := ⟨e3.size, F2, V2, e2⟩
  exact ⟨b2, m2, e1, O, _, h1.keep e3.size (fun g hg => e3.block g (q1 g hg)), hso.o, h2.keep e3, fun g hg => ⟨(h3 g hg).1, (h3 g hg).2, fun ho => by have := q1 g hg; omega⟩, fun g hg => ⟨by omega, fun ho => by have := (h4 g ho).2; omega⟩, fun g hg => ⟨(h4 g hg).1, Nat.lt_of_lt_of_le (h4 g hg).2 e3.size⟩, Nat.le_trans h5 e3.size, h6.trans (e3.mono h5)⟩
theorem Tri.spc (h : Tri O2 B w0 w b m b2 m2 rb s0 s t) (hc : ∀ O, SpO O w b m s0 → Calls Try.prog f args w fun e w' => e = .returned A ∧ SpO (More O w w') w' b m s' ∧ Frm O w w') :
    Calls Try.prog f args w fun e w' => e = .returned A ∧ Tri O2 B w0 w' b m b2 m2 rb s' s t := by
  obtain ⟨O, O', h1, h1', h2, h3, h3', h4, h5, h6⟩ := h
  refine (hc O h1).mono ?_
  rintro e w' ⟨e1, e2, e3⟩
  refine ⟨e1, _, O', e2, h1'.beside e3 (fun g hg ho => (h3 g ho).2.2 hg), h2.frm e3 (fun g hg ho => (h3 g ho).2.1 hg), fun g hg => ?_, h3', fun g hg => ⟨(h4 g hg).1, Nat.lt_of_lt_of_le (h4 g hg).2 e3.size⟩, Nat.le_trans h5 e3.size, h6.trans (e3.below (fun g hg => (h3 g hg).1) h5)⟩
  rcases hg with hg | hg
  · exact h3 g hg
  · exact ⟨by omega, fun ho => (by have := (h4 g ho).2; omega), fun ho => by have := h1'.1 g ho; omega⟩
theorem Tri.duo (h : Tri O2 B w0 w b m b2 m2 rb s0 s t) : Duo O2 B w0 w b2 m2 rb s t := by
  obtain ⟨O, O', h1, h1', h2, h3, h3', h4, h5, h6⟩ := h
  exact ⟨O', h1', h2, h3', h4, h5, h6⟩
end
end Rf
end Go.Proofs.Ytpbojhjbjnoihaa
