/-
  hasplaw.world; from the frame's word on a world that came in to ours.
-/
import Derived.Deep.RegionHeld3
import Derived.Deep.DrawnRows
import Derived.OpenShut
import Derived.Deep.SlicePairs
import Derived.Test.YtkjncjlombjlfaaBpa15
namespace Go.Proofs.Ytkjncjlombjlfaa
open Go.Proofs Go.RowKit Go.Shelf Go.Maps

attribute [local go_sem ↓] Go.wp_at_zero Go.wp_at_succ

end Go.Proofs.Ytkjncjlombjlfaa
