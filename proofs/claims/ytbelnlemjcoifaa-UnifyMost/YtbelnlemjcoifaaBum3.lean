/-
  match.Over.
-/
import Derived.Test.YtbelnlemjcoifaaBum2
namespace Go.Proofs.Ytbelnlemjcoifaa
open Go.Proofs Go.RowKit Go.Shelf Go.Maps

attribute [local go_sem] Oper.semAt_some

/-- The places at which p fits, of some places. -/
def overL (t p : List Int) (l : List (PlaceOf t)) : List Int := (l.filter fun x => (Tm.fit p (Tm.part t x.1)).isSome).map fun x => (x.1 : Int)
def Tm.overVal (t p : List Int) : List Int := if Tm.fitErr t p = 0 then overL t p (placesTo t t.length) else []

end Go.Proofs.Ytbelnlemjcoifaa
