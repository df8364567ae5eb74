/-
  No cell of these rows narrows 'for every input' (looked for: loops, veiled, ifaces, maps, wideKeys, modest, calm, conditions, laid).
  DERIVED. THE GIVEN ROWS OF THIS SEAT. 5 by the template 'for every input the law returns true; each argument reads behind the call as it read before'; 0 by the template 'total and deterministic' (their statements: YtiflkjjjncagfaaTotals.lean).
  GIVEN WITH THE SEED: the statements are not yours to turn. If you find one false, say at which input.
  Laid BY PROGRAM, IN A SANDBOX (cutbox-rows.mjs): the forced cells as the released guide's own fill.sh prints them over the translation 4d21db2170cc9533… (all of the seat's roots in one cut). By AI agents, Wed Nov 11 2026. No macro, syntax, notation, axiom, sorry.
-/
import Derived.Test.YtiflkjjjncagfaaChecked
import GoSem.Claim
import GoSem.ClaimJoined
import GoSem.ClaimMapViews
import Derived.JoinedTies
import Derived.KernelRfl
namespace Go.Proofs.Ytiflkjjjncagfaa
/- THE CELL 'sum', in the pinned program and in every row, IS THE sha256 OF THE DUMP (.gsa) THAT YtiflkjjjncagfaaProg.lean LOADS. Nothing in Lean hashes anything: it is a label: what it is worth is what the hold of that sum in a sandbox is worth. -/
noncomputable def Try.pinned : Pinned := { name := "ytiflkjjjncagfaa", sum := "4d21db2170cc9533388cc14b69e8554055739ed18e50061f2cead0704c87d709", checked := Try.checked }
namespace Rows
def none {H : Type} : Left H := { results := [], args := [] }

/-- 'hoardlaw05.PackRecords': WHATEVER THE INPUT: true; the input reads as it did. -/
def packRecordsSpec : ChangeSpec := { name := "packRecords", fn := fun _ => fun
  | [d1, d2] => { results := [.lit (.bool true)], args := [d1, d2] }
  | _ => none }
def packRecordsRow : OpenClaim := { program := "ytiflkjjjncagfaa", sum := "4d21db2170cc9533388cc14b69e8554055739ed18e50061f2cead0704c87d709", func := "hoard/hoardlaw05.PackRecords", spec := "packRecords", apart := false }
def PackRecordsSaid : Prop := packRecordsRow.holds Try.pinned (OpenSpec.ofChange packRecordsSpec)

/-- ITS FALSE NEIGHBOUR: 'it returns false'. Refute it at one input. -/
def packRecordsWrong : ChangeSpec := { name := "packRecords", fn := fun _ => fun
  | [d1, d2] => { results := [.lit (.bool false)], args := [d1, d2] }
  | _ => none }
def PackRecordsWrongFalsely : Prop := packRecordsRow.holds Try.pinned (OpenSpec.ofChange packRecordsWrong)

/-- 'hoardlaw05.PackInverse': WHATEVER THE INPUT: true; the input reads as it did. -/
def packInverseSpec : ChangeSpec := { name := "packInverse", fn := fun _ => fun
  | [d1, d2, d3] => { results := [.lit (.bool true)], args := [d1, d2, d3] }
  | _ => none }
def packInverseRow : OpenClaim := { program := "ytiflkjjjncagfaa", sum := "4d21db2170cc9533388cc14b69e8554055739ed18e50061f2cead0704c87d709", func := "hoard/hoardlaw05.PackInverse", spec := "packInverse", apart := false }
def PackInverseSaid : Prop := packInverseRow.holds Try.pinned (OpenSpec.ofChange packInverseSpec)

/-- ITS FALSE NEIGHBOUR: 'it returns false'. Refute it at one input. -/
def packInverseWrong : ChangeSpec := { name := "packInverse", fn := fun _ => fun
  | [d1, d2, d3] => { results := [.lit (.bool false)], args := [d1, d2, d3] }
  | _ => none }
def PackInverseWrongFalsely : Prop := packInverseRow.holds Try.pinned (OpenSpec.ofChange packInverseWrong)

/-- 'hoardlaw05.PackPtrs': WHATEVER THE INPUT: true; the input reads as it did. -/
def packPtrsSpec : ChangeSpec := { name := "packPtrs", fn := fun _ => fun
  | [d1, d2] => { results := [.lit (.bool true)], args := [d1, d2] }
  | _ => none }
def packPtrsRow : OpenClaim := { program := "ytiflkjjjncagfaa", sum := "4d21db2170cc9533388cc14b69e8554055739ed18e50061f2cead0704c87d709", func := "hoard/hoardlaw05.PackPtrs", spec := "packPtrs", apart := false }
def PackPtrsSaid : Prop := packPtrsRow.holds Try.pinned (OpenSpec.ofChange packPtrsSpec)

/-- ITS FALSE NEIGHBOUR: 'it returns false'. Refute it at one input. -/
def packPtrsWrong : ChangeSpec := { name := "packPtrs", fn := fun _ => fun
  | [d1, d2] => { results := [.lit (.bool false)], args := [d1, d2] }
  | _ => none }
def PackPtrsWrongFalsely : Prop := packPtrsRow.holds Try.pinned (OpenSpec.ofChange packPtrsWrong)

/-- 'hoardlaw05.PackJoins': WHATEVER THE INPUT: true; the input reads as it did. -/
def packJoinsSpec : ChangeSpec := { name := "packJoins", fn := fun _ => fun
  | [d1, d2] => { results := [.lit (.bool true)], args := [d1, d2] }
  | _ => none }
def packJoinsRow : OpenClaim := { program := "ytiflkjjjncagfaa", sum := "4d21db2170cc9533388cc14b69e8554055739ed18e50061f2cead0704c87d709", func := "hoard/hoardlaw05.PackJoins", spec := "packJoins", apart := false }
def PackJoinsSaid : Prop := packJoinsRow.holds Try.pinned (OpenSpec.ofChange packJoinsSpec)

/-- ITS FALSE NEIGHBOUR: 'it returns false'. Refute it at one input. -/
def packJoinsWrong : ChangeSpec := { name := "packJoins", fn := fun _ => fun
  | [d1, d2] => { results := [.lit (.bool false)], args := [d1, d2] }
  | _ => none }
def PackJoinsWrongFalsely : Prop := packJoinsRow.holds Try.pinned (OpenSpec.ofChange packJoinsWrong)

/-- 'hoardlaw05.PackNumbers': WHATEVER THE INPUT: true; the input reads as it did. -/
def packNumbersSpec : ChangeSpec := { name := "packNumbers", fn := fun _ => fun
  | [d] => { results := [.lit (.bool true)], args := [d] }
  | _ => none }
def packNumbersRow : OpenClaim := { program := "ytiflkjjjncagfaa", sum := "4d21db2170cc9533388cc14b69e8554055739ed18e50061f2cead0704c87d709", func := "hoard/hoardlaw05.PackNumbers", spec := "packNumbers", apart := false }
def PackNumbersSaid : Prop := packNumbersRow.holds Try.pinned (OpenSpec.ofChange packNumbersSpec)

/-- ITS FALSE NEIGHBOUR: 'it returns false'. Refute it at one input. -/
def packNumbersWrong : ChangeSpec := { name := "packNumbers", fn := fun _ => fun
  | [d] => { results := [.lit (.bool false)], args := [d] }
  | _ => none }
def PackNumbersWrongFalsely : Prop := packNumbersRow.holds Try.pinned (OpenSpec.ofChange packNumbersWrong)

/- THE SECOND FORM. 'bulk': how many values and letters a reading holds, each counted each time it is reached (what is shared counts as often as it is met; a slice's spare places count too). A statement '..UptoSaid' is the law's where the arguments, and the package variables that the reading takes, are together of bulk at most 1048576: NARROWER than '..Said'. Prove '..Said' where nothing that the law and all that it calls make is longer than what came in: it says more and counts as full. Else prove '..UptoSaid'. A law counts once. -/
mutual
def uptoBulk {H : Type} : DataW H → Nat
  | .lit (.string bytes) => bytes.length + 1
  | .lit _ => 1
  | .nil => 1
  | .ptr d => uptoBulk d + 1
  | .slice elems spare => uptoBulkAll elems + uptoBulkAll spare + 1
  | .agg parts => uptoBulkAll parts + 1
  | .iface _ d => uptoBulk d + 1
  | .map entries => uptoBulkEntries entries + 1
  | .held _ => 1
def uptoBulkAll {H : Type} : List (DataW H) → Nat
  | [] => 0
  | d :: r => uptoBulk d + uptoBulkAll r
def uptoBulkEntries {H : Type} : List (Lit × DataW H) → Nat
  | [] => 0
  | x :: r => uptoBulkEntry x + uptoBulkEntries r
def uptoBulkEntry {H : Type} : Lit × DataW H → Nat
  | (.string bytes, d) => bytes.length + uptoBulk d + 1
  | (_, d) => uptoBulk d + 1
 end
def uptoSmall : (H : Type) → List (DataW H) → Bool := fun _ ds => decide (uptoBulkAll ds ≤ 1048576)
def OpenSpec.upto (s : _root_.Go.ChangeSpec) : _root_.Go.OpenSpec := { _root_.Go.OpenSpec.ofChange s with cond := some uptoSmall }

/-- 'hoardlaw05.PackRecords', WHERE WHAT IT READS IS OF BULK AT MOST 1048576: true; the input reads as it did. -/
def packRecordsUptoRow : OpenClaim := { program := "ytiflkjjjncagfaa", sum := "4d21db2170cc9533388cc14b69e8554055739ed18e50061f2cead0704c87d709", func := "hoard/hoardlaw05.PackRecords", spec := "packRecords", apart := false, narrowed := true }
def PackRecordsUptoSaid : Prop := packRecordsUptoRow.holds Try.pinned (OpenSpec.upto packRecordsSpec)

/-- 'hoardlaw05.PackInverse', WHERE WHAT IT READS IS OF BULK AT MOST 1048576: true; the input reads as it did. -/
def packInverseUptoRow : OpenClaim := { program := "ytiflkjjjncagfaa", sum := "4d21db2170cc9533388cc14b69e8554055739ed18e50061f2cead0704c87d709", func := "hoard/hoardlaw05.PackInverse", spec := "packInverse", apart := false, narrowed := true }
def PackInverseUptoSaid : Prop := packInverseUptoRow.holds Try.pinned (OpenSpec.upto packInverseSpec)

/-- 'hoardlaw05.PackPtrs', WHERE WHAT IT READS IS OF BULK AT MOST 1048576: true; the input reads as it did. -/
def packPtrsUptoRow : OpenClaim := { program := "ytiflkjjjncagfaa", sum := "4d21db2170cc9533388cc14b69e8554055739ed18e50061f2cead0704c87d709", func := "hoard/hoardlaw05.PackPtrs", spec := "packPtrs", apart := false, narrowed := true }
def PackPtrsUptoSaid : Prop := packPtrsUptoRow.holds Try.pinned (OpenSpec.upto packPtrsSpec)

/-- 'hoardlaw05.PackJoins', WHERE WHAT IT READS IS OF BULK AT MOST 1048576: true; the input reads as it did. -/
def packJoinsUptoRow : OpenClaim := { program := "ytiflkjjjncagfaa", sum := "4d21db2170cc9533388cc14b69e8554055739ed18e50061f2cead0704c87d709", func := "hoard/hoardlaw05.PackJoins", spec := "packJoins", apart := false, narrowed := true }
def PackJoinsUptoSaid : Prop := packJoinsUptoRow.holds Try.pinned (OpenSpec.upto packJoinsSpec)

/-- 'hoardlaw05.PackNumbers', WHERE WHAT IT READS IS OF BULK AT MOST 1048576: true; the input reads as it did. -/
def packNumbersUptoRow : OpenClaim := { program := "ytiflkjjjncagfaa", sum := "4d21db2170cc9533388cc14b69e8554055739ed18e50061f2cead0704c87d709", func := "hoard/hoardlaw05.PackNumbers", spec := "packNumbers", apart := false, narrowed := true }
def PackNumbersUptoSaid : Prop := packNumbersUptoRow.holds Try.pinned (OpenSpec.upto packNumbersSpec)

end Rows
end Go.Proofs.Ytiflkjjjncagfaa
