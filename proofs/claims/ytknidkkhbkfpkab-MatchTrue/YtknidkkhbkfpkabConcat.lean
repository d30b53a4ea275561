/-
  slices.Grow of the nil slice; slices.Concat of slices of ints.
-/
import Derived.Lib.AppendZeros
import Derived.Test.YtknidkkhbkfpkabPart2
namespace Go.Proofs.Ytknidkkhbkfpkab
open Go.Proofs Go.RowKit Go.Shelf

/-- The lengths' sum. -/
def lens (l : List (List Int)) : Nat := (l.map List.length).sum
theorem lens_snoc {l : List (List Int)} {k : Nat} (h : k < l.length) : lens (l.take (k + 1)) = lens (l.take k) + (l[k]?.getD []).length := by
  have e : l[k]?.getD [] = l[k] := by simp [h]
  rw [List.take_succ_eq_append_getElem h, e]
  unfold lens
  rw [List.map_append, List.sum_append]
  simp only [List.map_cons, List.map_nil, List.sum_cons, List.sum_nil, Nat.add_zero]
theorem lens_le (l : List (List Int)) (k : Nat) : lens (l.take k) ≤ lens l := by
  have h : lens l = lens (l.take k) + lens (l.drop k) := by
    unfold lens
    rw [← List.sum_append, ← List.map_append, List.take_append_drop]
  omega
theorem flat_snoc {l : List (List Int)} {k : Nat} (h : k < l.length) : (l.take (k + 1)).flatten = (l.take k).flatten ++ (l[k]?.getD []) := by
  have e : l[k]?.getD [] = l[k] := by simp [h]
  rw [List.take_succ_eq_append_getElem h, e, List.flatten_append]
  simp only [List.flatten_cons, List.flatten_nil, List.append_nil]
theorem flat_len (l : List (List Int)) : l.flatten.length = lens l := by simp [lens, List.length_flatten]

end Go.Proofs.Ytknidkkhbkfpkab
