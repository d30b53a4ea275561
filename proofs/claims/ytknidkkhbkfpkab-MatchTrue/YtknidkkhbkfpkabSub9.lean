/-
  haspref.PlainOf; hasplaw.subBegun: it answers true.
-/
import Derived.Test.YtknidkkhbkfpkabPlain5
namespace Go.Proofs.Ytknidkkhbkfpkab
open Go.Proofs Go.RowKit Go.Shelf Go.Maps

theorem Tm.s1 : Tm.applyErr Tm.someL [4, -1, -2] = 0 := by decide +kernel
theorem Tm.s2 : Tm.applyVal Tm.someL [4, -1, -2] = [4, 2, -2, -1] := by decide +kernel
theorem Tm.s3 : Tm.afterErr Tm.someL Tm.someL = 0 := by decide +kernel
theorem Tm.s4 : Tm.afterVal Tm.someL Tm.someL = [[2, -1], [2, -2], [-3], [-4], [-5], [-6], [-7], [-8]] := by decide +kernel
theorem Tm.s5 : Tm.err [4, -5, 4, -2, -5] = 0 := by decide +kernel
theorem Tm.s6 : Tm.plainVal [4, -5, 4, -2, -5] = [4, -1, 4, -2, -1] := by decide +kernel
theorem Tm.s7 : Tm.applyErr [] [4, -1, 2, 0] = 1 := by decide +kernel
theorem Tm.s8 : Tm.applyVal [] [4, -1, 2, 0] = [] := by decide +kernel
theorem Tm.s9 : Tm.subErr (Tm.noneL 8) = 0 := by decide +kernel
theorem Tm.s10 : Tm.someL.length = 8 := rfl

end Go.Proofs.Ytknidkkhbkfpkab
