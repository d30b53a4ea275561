/-
  term.Put; haspref.put, PutOf.
-/
import Derived.Deep.RegionWith
import Derived.Test.YtknidkkhbkfpkabConcat
namespace Go.Proofs.Ytknidkkhbkfpkab
open Go.Proofs Go.RowKit Go.Shelf

/-- The term at k becomes u. -/
def Tm.put (zs : List Int) (k : Nat) (us : List Int) : List Int := zs.take k ++ us ++ zs.drop (Tm.endAt zs k)
def Tm.putErr (zs : List Int) (k : Int) (us : List Int) : Int :=
  if Tm.err zs = 0 then (if Tm.err us = 0 then (if insideB k 0 ((zs.length : Int) - 1) = true then (if 30 < (Tm.put zs k.toNat us).length then 2 else 0) else 3) else Tm.err us) else Tm.err zs
def Tm.putVal (zs : List Int) (k : Int) (us : List Int) : List Int := if Tm.putErr zs k us = 0 then Tm.put zs k.toNat us else []
theorem Tm.put_length {zs us : List Int} {k : Nat} (hk : k < zs.length) : (Tm.put zs k us).length = k + us.length + (zs.length - Tm.endAt zs k) := by
  simp only [Tm.put, List.length_append, List.length_take, List.length_drop]; omega
theorem Tm.err_pos {zs : List Int} (he : Tm.err zs = 0) : 0 < zs.length := by
  have h := Tm.err_run he
  have := Tm.run_ge zs 1
  omega

theorem Ints.some {n : Nat} {W : World} {a : Option Addr} {zs : List Int} (h : Ints n W a zs) (h0 : 0 < zs.length) : a ≠ none := by
  obtain ⟨b, off, rfl, _⟩ := h.at h0
  simp
theorem Ints.take {n : Nat} {W : World} {a : Option Addr} {zs : List Int} (h : Ints n W a zs) (k : Nat) : Ints n W a (zs.take k) := fun j hj => by
  rw [List.length_take] at hj
  obtain ⟨b, off, e, hb, hc⟩ := h j (by omega)
  refine ⟨b, off, e, hb, ?_⟩
  rw [hc]
  simp [show j < k from by omega]

theorem cell_at {W : World} {b : Nat} {cs : Array Value} {t : TypeId} {fr : Nat × Nat} (h : W.heap[b]? = some (.cells cs t fr)) (k : Nat) : W.cell? ⟨b, k, none⟩ = cs[k]? := by simp [World.cell?, h]

end Go.Proofs.Ytknidkkhbkfpkab
