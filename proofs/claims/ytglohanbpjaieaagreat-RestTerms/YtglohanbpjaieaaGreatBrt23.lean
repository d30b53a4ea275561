/-
  Parts of the proof: Mod3.
-/
import Derived.Laws.Rows
import Derived.Deep.MidRow
import Derived.Test.YtglohanbpjaieaaGreatBrt22
namespace Go.Proofs.YtglohanbpjaieaaGreat
open Go.Proofs Go.RowKit Go.Shelf Go.Maps
theorem pos_lt {t:List Int} (ht:Tm.err t = 0) {k:Nat} (hk:k < t.length) {m:Nat} (hm:m < Tm.room (t[k]?.getD 0)):Tm.pos t k m < t.length:=by
 have h1:=Tm.pos_part ht hk m (by omega)
 have h2:=Tm.pos_in (Tm.part_err ht hk) (m:=m) (by rw [Tm.sym_part ht hk];exact hm)
 rw [Tm.part_length ht hk] at h2
 have h3:=Tm.end_in ht hk
 omega
end Go.Proofs.YtglohanbpjaieaaGreat
