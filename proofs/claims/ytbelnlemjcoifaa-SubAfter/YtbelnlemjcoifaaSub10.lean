/-
  PLAIN MATHEMATICS of what variables become: first by one list, then by another, is by After of both; what is plain is plain.
-/
import Derived.Test.YtbelnlemjcoifaaRow2
namespace Go.Proofs.Ytbelnlemjcoifaa
open Go.Proofs Go.RowKit Go.Shelf

theorem Tm.plain_length (t : List Int) : (Tm.plain t).length = t.length := Tm.plainTo_length _ _ _
theorem Tm.plainVal_le (t : List Int) : (Tm.plainVal t).length ≤ 30 := by
  unfold Tm.plainVal
  by_cases h : Tm.err t = 0
  · rw [if_pos h, Tm.plain_length]; exact Tm.err_len h
  · rw [if_neg h]; simp
theorem Tm.afterVal_le (ss us : List (List Int)) : (Tm.afterVal ss us).length ≤ 1000 := by
  by_cases hs : Tm.subErr ss = 0
  · unfold Tm.afterVal
    split
    · rw [Tm.afterL_length, (Tm.subErr_ok hs).1]; omega
    · simp
  · rw [(Tm.after_s hs).2]; simp

end Go.Proofs.Ytbelnlemjcoifaa
