/-
  Whatever list of rules and two numbers PairsOf is handed, it answers true and changes nothing that it was handed: pairs.Of answers just what the document says, errors too. No condition.
-/
import Derived.Test.YtkjncjlombjlfaaRows
import Derived.WalkKit
import Derived.ProofKit
import Derived.OpenShut
import Derived.ChangeOld
import Derived.Below
import Derived.Deep.Matrix
import Derived.Test.YtkjncjlombjlfaaBpo1
import Derived.Test.YtkjncjlombjlfaaBpo5
import Derived.Test.YtkjncjlombjlfaaBpo10
import Derived.Test.YtkjncjlombjlfaaBpo17
namespace Go.Proofs.Ytkjncjlombjlfaa.pairsOf
open Go.ChangeShapes Go.WideShapes Go.ChangeAt Go.RowKit Go.Deep Go.Shelf Go.Maps
set_option linter.unusedVariables false

theorem own : ownKnob Try.prog.godebug = none := by kernel_rfl
theorem laidOut : laidOutB Try.prog = true := by kernel_rfl

end Go.Proofs.Ytkjncjlombjlfaa.pairsOf