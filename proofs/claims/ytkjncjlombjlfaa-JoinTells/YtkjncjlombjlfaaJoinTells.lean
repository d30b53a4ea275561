/-
  Whatever list of rules and pair of lists of signs JoinTells is handed, it answers true and changes nothing that it was handed: join.Pair and join.All answer just what the document says, errors too. No condition.
-/
import Derived.Test.YtkjncjlombjlfaaRows
import Derived.WalkKit
import Derived.ProofKit
import Derived.OpenShut
import Derived.ChangeOld
import Derived.Below
import Derived.Deep.Matrix
import Derived.Test.YtkjncjlombjlfaaBjo1
import Derived.Test.YtkjncjlombjlfaaBjo5
import Derived.Test.YtkjncjlombjlfaaBjo10
import Derived.Test.YtkjncjlombjlfaaBjo19
namespace Go.Proofs.Ytkjncjlombjlfaa.joinTells
open Go.ChangeShapes Go.WideShapes Go.ChangeAt Go.RowKit Go.Deep Go.Shelf Go.Maps
set_option linter.unusedVariables false

theorem own : ownKnob Try.prog.godebug = none := by kernel_rfl
theorem laidOut : laidOutB Try.prog = true := by kernel_rfl

end Go.Proofs.Ytkjncjlombjlfaa.joinTells