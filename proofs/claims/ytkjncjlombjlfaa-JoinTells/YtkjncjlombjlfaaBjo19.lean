/-
  haspref.form, FormOf, IsOf. · haspref.JoinPair, haspref.JoinAll.
-/
import Derived.Test.YtkjncjlombjlfaaBjo11
import Derived.Test.YtkjncjlombjlfaaBjo18
import Derived.Test.YtkjncjlombjlfaaBjo17
import Derived.Test.YtkjncjlombjlfaaBjo10
namespace Go.Proofs.Ytkjncjlombjlfaa
open Go.Proofs Go.RowKit Go.Shelf Go.Maps

end Go.Proofs.Ytkjncjlombjlfaa

namespace Go.Proofs.Ytkjncjlombjlfaa
open Go.Proofs Go.RowKit Go.Shelf Go.Maps

theorem Tm.RefAll.len {rs : RuleL} {er : Int} {ps : PairL} (h : Tm.RefAll rs er ps) : ps.length ≤ 40 := by
  rcases h with h | ⟨_, _, rfl, _⟩
  · exact h.len
  · simp
/-- What haspref.JoinAll answers. -/
def Tm.RefJoin (rs : RuleL) (is : Bool) (er : Int) : Prop := ∃ er' ps, Tm.RefAll rs er' ps ∧ ((er' ≠ 0 ∧ is = false ∧ er = er') ∨ (er' = 0 ∧ (is, er) = Tm.joinL rs ps))
end Go.Proofs.Ytkjncjlombjlfaa
