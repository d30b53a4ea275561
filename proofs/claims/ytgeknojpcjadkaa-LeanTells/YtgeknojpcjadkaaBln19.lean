/-
  hasplaw.normBegun, walked; PLAIN MATHEMATICS of forms.
-/
import Derived.Test.YtgeknojpcjadkaaBln18
namespace Go.Proofs.Ytgeknojpcjadkaa
open Go.Proofs Go.RowKit Go.Shelf Go.Maps

/-! Mathematics. -/
/-- A run: from t by n first steps to x, which has none. -/
inductive Tm.Runs (rs : RuleL) : List Int → Nat → List Int → Prop where
  | stop {t : List Int} (h : Tm.stepErr rs t = 0) (hn : (Tm.stepVal rs t).length = 0) : Tm.Runs rs t 0 t
  | go {t x : List Int} {n : Nat} (h : Tm.stepErr rs t = 0) (hn : 0 < (Tm.stepVal rs t).length) (hr : Tm.Runs rs ((Tm.stepVal rs t)[0]?.getD (0, 0, [])).2.2 n x) : Tm.Runs rs t (n + 1) x
end Go.Proofs.Ytgeknojpcjadkaa
