/-
  rules.Steps.
-/
import Derived.Deep.DrawnRows
import Derived.Test.YtgeknojpcjadkaaBln12
import Derived.Test.YtgeknojpcjadkaaBln13
namespace Go.Proofs.Ytgeknojpcjadkaa
open Go.Proofs Go.RowKit Go.Shelf Go.Maps

attribute [local go_sem] Oper.semAt_some
attribute [local go_sem ↓] Go.wp_at_zero Go.wp_at_succ

/-- What rules.Steps answers. -/
def StepsAns (rs : RuleL) (t : List Int) (w : World) (e : Ending) (w' : World) : Prop := ∃ v, e = .returned (.tuple #[v, .int .i64 (Tm.stepErr rs t)]) ∧ NewT w.heap.size w' v (Tm.stepVal rs t) ∧ Below w.heap.size w w'

/-- What holds ahead of place m. -/
structure StAt (rs : RuleL) (t : List Int) (w2 : World) (B : Nat) (tv : Value) (m : Nat) (W : World) : Prop where
  no : Tm.allE rs t m = 0
  inv : StInv w2 B tv (Tm.allL rs t m) W
/-- What holds where it is left. -/
structure StOut (rs : RuleL) (t : List Int) (w : World) (n : Nat) (c : Code) (W : World) : Prop where
  ret : c = .ret
  bad : Tm.allE rs t t.length ≠ 0
  b0 : Boxed W (n + 1 + 1) 50 (.slice none 0 0)
  b1 : Boxed W (n + 1 + 1 + 1) 31 (.int .i64 (Tm.allE rs t t.length))
  kp : Below n w W

end Go.Proofs.Ytgeknojpcjadkaa
