/-
  hasplaw.rulesBegun.
-/
import Derived.Test.YtkjncjlombjlfaaBpa8
namespace Go.Proofs.Ytkjncjlombjlfaa
open Go.Proofs Go.RowKit Go.Shelf Go.Maps

end Go.Proofs.Ytkjncjlombjlfaa
