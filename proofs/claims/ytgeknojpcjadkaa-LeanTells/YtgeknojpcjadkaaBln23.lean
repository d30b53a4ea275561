/-
  hasplaw.holds.
-/
import Derived.Test.YtgeknojpcjadkaaBln22
namespace Go.Proofs.Ytgeknojpcjadkaa
open Go.Proofs Go.RowKit Go.Shelf Go.Maps

/-- Eight variables' cells. -/
abbrev vaC (vs : Nat → Nat) : Array Value := #[.int .i64 (vs 0 : Int), .int .i64 (vs 1 : Int), .int .i64 (vs 2 : Int), .int .i64 (vs 3 : Int), .int .i64 (vs 4 : Int), .int .i64 (vs 5 : Int), .int .i64 (vs 6 : Int), .int .i64 (vs 7 : Int)]
end Go.Proofs.Ytgeknojpcjadkaa
