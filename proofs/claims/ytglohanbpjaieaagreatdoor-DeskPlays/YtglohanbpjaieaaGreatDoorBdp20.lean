/-
  Parts of the proof.
-/
import Derived.Test.YtglohanbpjaieaaGreatDoorBdp19
namespace Go.Proofs.YtglohanbpjaieaaGreatDoor
open Go.Proofs Go.RowKit Go.Shelf Go.Maps
variable {a:List Int}{b:Nat}
theorem MP(d:Tm.err a=0)(c:b<a.length){m:Nat}(f:m<Tm.room (a[b]?.getD 0)):Tm.pos a b m<a.length:=by
 have g:=mL d c m (by omega);have e:=mY (fD d c) (m:=m) (by rw[j8 d c];exact f);rw[fZ d c]at e;have h:=gL d c;omega
