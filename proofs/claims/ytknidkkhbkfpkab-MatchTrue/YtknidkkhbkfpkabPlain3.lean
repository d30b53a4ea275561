/-
  signs.Plain of one term, sub.Plain.
-/
import Derived.Test.YtknidkkhbkfpkabPlain2
namespace Go.Proofs.Ytknidkkhbkfpkab
open Go.Proofs Go.RowKit Go.Shelf Go.Maps

/-- A term made plain. -/
def Tm.plain (t : List Int) : List Int := Tm.plainTo [] t t.length

def Tm.plainVal (t : List Int) : List Int := if Tm.err t = 0 then Tm.plain t else []
theorem Tm.known6 {t : List Int} (h : Tm.err t = 0) : ∀ k, k < t.length → t[k]?.getD 0 < 6 := fun _ hk => Tm.known_lt (Tm.all_at (Tm.err_all h) hk)

end Go.Proofs.Ytknidkkhbkfpkab
