/-
  hasplaw.world; from the frame's word on a world that came in to ours.
-/
import Derived.Deep.RegionHeld3
import Derived.Deep.DrawnRows
import Derived.OpenShut
import Derived.Deep.SlicePairs
import Derived.Test.YtgeknojpcjadkaaBln23
namespace Go.Proofs.Ytgeknojpcjadkaa
open Go.Proofs Go.RowKit Go.Shelf Go.Maps

attribute [local go_sem ↓] Go.wp_at_zero Go.wp_at_succ

/-- Do all rules hold? -/
def worldB (zs : List Int) (rs : RuleL) : Bool := rs.all fun r => Tm.holdsB (mo zs) r.1 r.2 (max (dpN r.1) (dpN r.2))
/-! The frame. -/
/-- Ints, each as it must be. -/
def AllInt (cs : List Value) : Prop := ∀ j, j < cs.length → ∃ z, cs[j]? = some (.int .i64 z) ∧ (Lit.int .i64 z).wf = true
end Go.Proofs.Ytgeknojpcjadkaa
