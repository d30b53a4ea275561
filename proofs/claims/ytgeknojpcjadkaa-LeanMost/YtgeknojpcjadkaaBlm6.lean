/-
  Parts of the proof: Ord8.
-/
import Derived.Deep.DrawnRows
import Derived.Shelf.RegionOpen
import Derived.Test.YtgeknojpcjadkaaBlm5
namespace Go.Proofs.Ytgeknojpcjadkaa
open Go.Proofs Go.RowKit Go.Shelf Go.Maps
attribute [local go_sem] Oper.semAt_some
attribute [local go_sem ↓] Go.wp_at_zero Go.wp_at_succ
end Go.Proofs.Ytgeknojpcjadkaa
