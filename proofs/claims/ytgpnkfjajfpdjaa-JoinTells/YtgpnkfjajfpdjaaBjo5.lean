/-
  signs.Places: the iterator over all places.
-/
import Derived.Test.YtgpnkfjajfpdjaaBjo4
import Derived.Test.YtgpnkfjajfpdjaaBjo3
namespace Go.Proofs.Ytgpnkfjajfpdjaa
open Go.Proofs Go.RowKit Go.Shelf Go.Maps

attribute [local go_sem] Oper.semAt_some

/-- A place of zs. -/
abbrev PlaceOf (zs : List Int) : Type := { k : Nat // k < zs.length }
def encPlace (zs : List Int) (x : PlaceOf zs) : Array Value := #[.int .i64 (x.1 : Int), .int .i64 (Tm.endAt zs x.1 : Int)]
/-- The first m places. -/
def placesTo (zs : List Int) : Nat → List (PlaceOf zs)
  | 0 => []
  | m + 1 => if h : m < zs.length then placesTo zs m ++ [⟨m, h⟩] else placesTo zs m
end Go.Proofs.Ytgpnkfjajfpdjaa
