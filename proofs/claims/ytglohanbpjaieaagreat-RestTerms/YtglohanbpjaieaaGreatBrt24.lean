/-
  Parts of the proof: Mod6.
-/
import Derived.Deep.RegionHeld3
import Derived.Deep.DrawnRows
import Derived.OpenShut
import Derived.Deep.SlicePairs
import Derived.Test.YtglohanbpjaieaaGreatBrt23
namespace Go.Proofs.YtglohanbpjaieaaGreat
open Go.Proofs Go.RowKit Go.Shelf Go.Maps
attribute [local go_sem ↓] Go.wp_at_zero Go.wp_at_succ
end Go.Proofs.YtglohanbpjaieaaGreat
