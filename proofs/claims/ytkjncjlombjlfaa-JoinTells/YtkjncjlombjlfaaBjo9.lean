/-
  hasplaw.rulesBegun.
-/
import Derived.Test.YtkjncjlombjlfaaBjo8
namespace Go.Proofs.Ytkjncjlombjlfaa
open Go.Proofs Go.RowKit Go.Shelf Go.Maps

end Go.Proofs.Ytkjncjlombjlfaa
