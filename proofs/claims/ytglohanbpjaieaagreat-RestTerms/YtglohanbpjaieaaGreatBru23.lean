/-
  Parts of the proof: Mod6.
-/
import Derived.OpenShut
import Derived.Test.YtglohanbpjaieaaGreatBru22
namespace Go.Proofs.YtglohanbpjaieaaGreat
open Go.Proofs Go.RowKit Go.Shelf Go.Maps
section
attribute [local go_sem ↓] Go.wp_at_zero Go.wp_at_succ
end
end Go.Proofs.YtglohanbpjaieaaGreat
