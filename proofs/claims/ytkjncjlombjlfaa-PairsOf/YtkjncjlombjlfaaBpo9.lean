/-
  hasplaw.rulesBegun.
-/
import Derived.Test.YtkjncjlombjlfaaBpo8
namespace Go.Proofs.Ytkjncjlombjlfaa
open Go.Proofs Go.RowKit Go.Shelf Go.Maps

end Go.Proofs.Ytkjncjlombjlfaa
