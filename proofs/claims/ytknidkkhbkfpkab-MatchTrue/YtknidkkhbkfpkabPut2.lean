/-
  term.Put whatever it is handed; haspref.put, PutOf.
-/
import Derived.Test.YtknidkkhbkfpkabPut
namespace Go.Proofs.Ytknidkkhbkfpkab
open Go.Proofs Go.RowKit Go.Shelf

theorem Tm.putErr_zs {zs us : List Int} {k : Int} (he : Tm.err zs ≠ 0) : Tm.putErr zs k us = Tm.err zs := by simp [Tm.putErr, he]
theorem Tm.putErr_us {zs us : List Int} {k : Int} (he : Tm.err zs = 0) (hu : Tm.err us ≠ 0) : Tm.putErr zs k us = Tm.err us := by simp [Tm.putErr, he, hu]
theorem Tm.putErr_k {zs us : List Int} {k : Int} (he : Tm.err zs = 0) (hu : Tm.err us = 0) (hk : insideB k 0 ((zs.length : Int) - 1) = false) : Tm.putErr zs k us = 3 := by simp [Tm.putErr, he, hu, hk]
theorem Tm.putErr_in {zs us : List Int} {j : Nat} (he : Tm.err zs = 0) (hu : Tm.err us = 0) (hk : insideB (j : Int) 0 ((zs.length : Int) - 1) = true) : Tm.putErr zs (j : Int) us = if 30 < (Tm.put zs j us).length then 2 else 0 := by
  simp [Tm.putErr, he, hu, hk]
theorem Tm.putVal_in {zs us : List Int} {j : Nat} (he : Tm.err zs = 0) (hu : Tm.err us = 0) (hk : insideB (j : Int) 0 ((zs.length : Int) - 1) = true) : Tm.putVal zs (j : Int) us = if 30 < (Tm.put zs j us).length then [] else Tm.put zs j us := by
  unfold Tm.putVal
  rw [Tm.putErr_in he hu hk]
  by_cases h : 30 < (Tm.put zs j us).length <;> simp [h]
theorem Tm.putVal_out {zs us : List Int} {k : Int} (h : Tm.putErr zs k us ≠ 0) : Tm.putVal zs k us = [] := by simp [Tm.putVal, h]

theorem Tm.putVal_le (zs us : List Int) (k : Int) : (Tm.putVal zs k us).length ≤ 30 := by
  unfold Tm.putVal
  by_cases h : Tm.putErr zs k us = 0
  · rw [if_pos h]
    unfold Tm.putErr at h
    by_cases h1 : Tm.err zs = 0
    · rw [if_pos h1] at h
      by_cases h2 : Tm.err us = 0
      · rw [if_pos h2] at h
        by_cases h3 : insideB k 0 ((zs.length : Int) - 1) = true
        · rw [if_pos h3] at h
          by_cases h4 : 30 < (Tm.put zs k.toNat us).length
          · rw [if_pos h4] at h; omega
          · omega
        · rw [if_neg h3] at h; omega
      · rw [if_neg h2] at h; exact absurd h h2
    · rw [if_neg h1] at h; exact absurd h h1
  · rw [if_neg h]; exact Nat.zero_le _

end Go.Proofs.Ytknidkkhbkfpkab
