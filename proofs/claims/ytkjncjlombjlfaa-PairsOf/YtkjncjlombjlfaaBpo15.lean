/-
  hasplaw.holds.
-/
import Derived.Test.YtkjncjlombjlfaaBpo14
namespace Go.Proofs.Ytkjncjlombjlfaa
open Go.Proofs Go.RowKit Go.Shelf Go.Maps

end Go.Proofs.Ytkjncjlombjlfaa
