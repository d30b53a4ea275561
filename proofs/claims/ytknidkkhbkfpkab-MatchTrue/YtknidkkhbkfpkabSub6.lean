/-
  hasplaw.some; sub.After, haspref.AfterOf.
-/
import Derived.Test.YtknidkkhbkfpkabSub5
namespace Go.Proofs.Ytknidkkhbkfpkab
open Go.Proofs Go.RowKit Go.Shelf

def Tm.someL : List (List Int) := [[2, -2], [-1], [-3], [-4], [-5], [-6], [-7], [-8]]
theorem Tm.someL_eq : ((Tm.noneL 8).set 0 [2, -2]).set 1 [-1] = Tm.someL := by decide

end Go.Proofs.Ytknidkkhbkfpkab
