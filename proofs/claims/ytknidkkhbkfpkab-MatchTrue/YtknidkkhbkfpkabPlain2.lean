/-
  signs.Plain's function literal; signs.Change by it.
-/
import Derived.Maps.OwnOps
import Derived.Test.YtknidkkhbkfpkabPlain1
namespace Go.Proofs.Ytknidkkhbkfpkab
open Go.Proofs Go.RowKit Go.Shelf Go.Maps

theorem lawInt : Keyed Try.prog 3 := int_keyed Try.underlying3
theorem zeroInt (w : World) : (zeroValue 3).run Try.prog w = .ok (.int .i64 0) w := by kernel_rfl
theorem wf64 {s : Int} (h1 : -1000 ≤ s) (h2 : s ≤ 1000) : (Lit.int .i64 s).wf = true := by
  simp [Lit.wf, IntKind.min, IntKind.max, IntKind.signed, IntKind.bits]
  omega

end Go.Proofs.Ytknidkkhbkfpkab
