/-
  Parts of the proof: Mod3.
-/
import Derived.Test.YtglohanbpjaieaaGreatBru21
namespace Go.Proofs.YtglohanbpjaieaaGreat
open Go.Proofs Go.RowKit Go.Shelf Go.Maps
theorem BC {t:List Int} (ht:Tm.err t = 0) {k:Nat} (hk:k < t.length) {m:Nat} (hm:m < Tm.room (t[k]?.getD 0)):Tm.pos t k m < t.length:=by
 have h1:=Tm.mO ht hk m (by omega);have h2:=Tm.pq (Tm.dC ht hk) (m:=m) (by rw [Tm.jl ht hk];exact hm);rw [Tm.dF ht hk] at h2;have h3:=Tm.fV ht hk;omega
end Go.Proofs.YtglohanbpjaieaaGreat
