/-
  hasplaw.holds.
-/
import Derived.Test.YtkjncjlombjlfaaBpa14
namespace Go.Proofs.Ytkjncjlombjlfaa
open Go.Proofs Go.RowKit Go.Shelf Go.Maps

end Go.Proofs.Ytkjncjlombjlfaa
