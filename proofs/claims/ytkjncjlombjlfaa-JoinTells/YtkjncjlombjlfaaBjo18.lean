/-
  haspref.steps, StepsOf.
-/
import Derived.Deep.RegionHeld3
import Derived.Deep.DrawnRows
import Derived.Test.YtkjncjlombjlfaaBjo10
import Derived.Test.YtkjncjlombjlfaaBjo8
import Derived.Test.YtkjncjlombjlfaaBjo17
namespace Go.Proofs.Ytkjncjlombjlfaa
open Go.Proofs Go.RowKit Go.Shelf Go.Maps

attribute [local go_sem ↓] Go.wp_at_zero Go.wp_at_succ

end Go.Proofs.Ytkjncjlombjlfaa
