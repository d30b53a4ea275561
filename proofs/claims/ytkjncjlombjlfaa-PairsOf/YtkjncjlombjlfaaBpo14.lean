/-
  hasplaw.valued, of symbols with two parts; whatever stands there.
-/
import Derived.Test.YtkjncjlombjlfaaBpo13
namespace Go.Proofs.Ytkjncjlombjlfaa
open Go.Proofs Go.RowKit Go.Shelf Go.Maps

end Go.Proofs.Ytkjncjlombjlfaa
