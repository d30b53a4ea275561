/-
  Parts of the proof: Over2.
-/
import Derived.Test.YtgeknojpcjadkaaBlm3
namespace Go.Proofs.Ytgeknojpcjadkaa
open Go.Proofs Go.RowKit Go.Shelf Go.Maps
attribute [local go_sem] Oper.semAt_some
end Go.Proofs.Ytgeknojpcjadkaa
