/-
  match.Over.
-/
import Derived.Test.YtloealnfbpegnaeBum5
namespace Go.Proofs.Ytloealnfbpegnae
open Go.Proofs Go.RowKit Go.Shelf Go.Maps

attribute [local go_sem] Oper.semAt_some

/-- The places at which p fits, of some places. -/
def overL (t p : List Int) (l : List (PlaceOf t)) : List Int := (l.filter fun x => (Tm.fit p (Tm.part t x.1)).isSome).map fun x => (x.1 : Int)
theorem overL_no {t p : List Int} (l : List (PlaceOf t)) (x : PlaceOf t) (h : Tm.fit p (Tm.part t x.1) = none) : overL t p (l ++ [x]) = overL t p l := by
  simp [overL, List.filter_append, h]
theorem overL_yes {t p : List Int} (l : List (PlaceOf t)) (x : PlaceOf t) {m : Asg} (h : Tm.fit p (Tm.part t x.1) = some m) : overL t p (l ++ [x]) = overL t p l ++ [(x.1 : Int)] := by
  simp [overL, List.filter_append, h]
theorem overL_le {t p : List Int} (l : List (PlaceOf t)) : (overL t p l).length ≤ l.length := by
  simp only [overL, List.length_map]
  exact List.length_filter_le _ _
def Tm.overVal (t p : List Int) : List Int := if Tm.fitErr t p = 0 then overL t p (placesTo t t.length) else []

end Go.Proofs.Ytloealnfbpegnae
