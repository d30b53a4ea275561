/-
  Parts of the proof: Rul12.
-/
import Derived.Test.YtgeknojpcjadkaaBlm16
namespace Go.Proofs.Ytgeknojpcjadkaa
open Go.Proofs Go.RowKit Go.Shelf Go.Maps
theorem Tm.g1 : Tm.fallsErr rk6 groupL = 0 := by decide +kernel
theorem Tm.g2 : Tm.fallsVal rk6 groupL = true := by decide +kernel
theorem Tm.g3 : Tm.stepErr groupL [4, 4, 0, 1, 0] = 0 := by decide +kernel
theorem Tm.g4 : Tm.stepVal groupL [4, 4, 0, 1, 0] = [(2, 0, [4, 0, 4, 1, 0]), (0, 1, [4, 1, 0])] := by decide +kernel
theorem Tm.g5 : Tm.fallsErr rk6 [([2, -1], [3, -1])] = 0 := by decide +kernel
theorem Tm.g6 : Tm.fallsVal rk6 [([2, -1], [3, -1])] = false := by decide +kernel
theorem Tm.g7 : Tm.rulesErr groupL = 0 := by decide +kernel
theorem Tm.g8 : Tm.rulesErr [([-1], [-1])] = 1 := by decide +kernel
theorem Tm.g9 : Tm.rulesErr [([2, 0], [-1])] = 4 := by decide +kernel
end Go.Proofs.Ytgeknojpcjadkaa
