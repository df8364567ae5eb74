/-
  The document's Kill and Snapshot by contracts. The conditions: the line can be read, its rows have room.
-/
import Derived.Test.YtefgofoocabkkaaDeadCopyM
import Derived.Test.YtefgofoocabkkaaDeadKill
namespace Go.Proofs.Ytefgofoocabkkaa
open Go Go.RowKit
set_option maxRecDepth 100000
set_option linter.unusedVariables false
namespace Dd
end Dd
end Go.Proofs.Ytefgofoocabkkaa
