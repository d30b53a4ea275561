/-
  hasplaw.valued, of symbols with two parts; whatever stands there.
-/
import Derived.Test.YtgpnkfjajfpdjaaBpo21
namespace Go.Proofs.Ytgpnkfjajfpdjaa
open Go.Proofs Go.RowKit Go.Shelf Go.Maps

end Go.Proofs.Ytgpnkfjajfpdjaa
