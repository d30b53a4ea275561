/-
  Whatever two lists of signs UnifyMeets is handed, it answers true and changes nothing that it was handed: unify.Meet answers just what the document says, errors too. No condition.
-/
import Derived.Test.YtloealnfbpegnabRows
import Derived.WalkKit
import Derived.ProofKit
import Derived.OpenShut
import Derived.ChangeOld
import Derived.Below
import Derived.Deep.Matrix
import Derived.Test.YtloealnfbpegnabBun3
import Derived.Test.YtloealnfbpegnabBun11
import Derived.Test.YtloealnfbpegnabBun13
namespace Go.Proofs.Ytloealnfbpegnab.unifyMeets
open Go.ChangeShapes Go.WideShapes Go.ChangeAt Go.RowKit Go.Deep Go.Shelf Go.Maps
set_option linter.unusedVariables false

theorem own : ownKnob Try.prog.godebug = none := by kernel_rfl
theorem laidOut : laidOutB Try.prog = true := by kernel_rfl

end Go.Proofs.Ytloealnfbpegnab.unifyMeets