/-
  hasplaw.termBegun: it answers true.
-/
import Derived.Test.YtknidkkhbkfpkabBegun
namespace Go.Proofs.Ytknidkkhbkfpkab
open Go.Proofs Go.RowKit Go.Shelf

theorem Tm.q1 : Tm.endVal [4, -1, 2, 0] 2 = 4 := by decide +kernel
theorem Tm.q2 : Tm.placeErr [4, -1, 2, 0] 2 = 0 := by decide +kernel
theorem Tm.q3 : Tm.partVal [4, -1, 2, 0] 2 = [2, 0] := by decide +kernel
theorem Tm.q4 : Tm.putErr [4, -1, 2, 0] 1 [3, 1] = 0 := by decide +kernel
theorem Tm.q5 : Tm.putVal [4, -1, 2, 0] 1 [3, 1] = [4, 3, 1, 2, 0] := by decide +kernel
theorem Tm.q6 : Tm.placeErr [4, -1, 2, 0] 4 = 3 := by decide +kernel
theorem Tm.q7 : Tm.partVal [4, -1, 2, 0] 4 = [] := by decide +kernel
theorem Tm.q8 : Tm.putErr (List.replicate 31 0) 0 [4, -1, 2, 0] = 2 := by decide +kernel
theorem Tm.q9 : Tm.putVal (List.replicate 31 0) 0 [4, -1, 2, 0] = [] := by decide +kernel
theorem Tm.q10 : Tm.err [4, -1, 2, 0] = 0 := by decide +kernel
theorem Tm.q11 : Tm.err [4, 0] = 1 := by decide +kernel
theorem Tm.q12 : Tm.err [0, 0] = 1 := by decide +kernel
theorem Tm.q13 : Tm.err [6] = 3 := by decide +kernel
theorem Tm.q14 : Tm.err [] = 1 := by decide +kernel

theorem make31 : ∃ M : Array Value, (∀ W : World, (Instr.makeSlice 23 (.int .i64 31) (.int .i64 31)).run Try.prog W = .ok (.slice (some ⟨W.heap.size, 0, none⟩) 31 31) (W.alloc (.cells M 3))) ∧
    ∀ W : World, Ints (W.alloc (.cells M 3)).heap.size (W.alloc (.cells M 3)) (some ⟨W.heap.size, 0, none⟩) (List.replicate 31 0) := by
  obtain ⟨i0, hi, hz0, hz1, hz2⟩ := info_parts Try.info3
  refine ⟨madeCells #[.int .i64 0] 31, fun W => ?_, fun W j hj => ?_⟩
  · have h := run_makeSlice (P := Try.prog) W 23 3 i0 (.int .i64 0) Try.underlying23 hi hz0 .i64 .i64 31 31 (by omega) (by omega) (by rw [hz1]; decide) (by rw [hz2]; decide) (by decide)
    rw [hz1] at h
    exact h
  · refine ⟨W.heap.size, 0, rfl, by simp, ?_⟩
    rw [cell_at (World.alloc_heap_new W _)]
    have h := toList_madeCells_one (.int .i64 0) 31
    rw [List.length_replicate] at hj
    rw [← Array.getElem?_toList, h, List.getElem?_replicate, if_pos (by omega), List.getElem?_replicate, if_pos hj]
    rfl

end Go.Proofs.Ytknidkkhbkfpkab
