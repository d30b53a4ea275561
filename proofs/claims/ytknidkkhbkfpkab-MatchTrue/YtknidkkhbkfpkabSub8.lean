/-
  haspref.AfterOf.
-/
import Derived.Test.YtknidkkhbkfpkabSub7
namespace Go.Proofs.Ytknidkkhbkfpkab
open Go.Proofs Go.RowKit Go.Shelf

end Go.Proofs.Ytknidkkhbkfpkab
