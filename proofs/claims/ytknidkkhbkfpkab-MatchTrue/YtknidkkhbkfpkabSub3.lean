/-
  haspref.applied, ApplyOf.
-/
import Derived.Test.YtknidkkhbkfpkabSub2
namespace Go.Proofs.Ytknidkkhbkfpkab
open Go.Proofs Go.RowKit Go.Shelf

end Go.Proofs.Ytknidkkhbkfpkab
