/-
  hasplaw.valued, of symbols with two parts; whatever stands there.
-/
import Derived.Test.YtgeknojpcjadkaaBln21
namespace Go.Proofs.Ytgeknojpcjadkaa
open Go.Proofs Go.RowKit Go.Shelf Go.Maps

end Go.Proofs.Ytgeknojpcjadkaa
