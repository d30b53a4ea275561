/-
  haspref.PutOf; hasplaw.fxga, termBegun.
-/
import Derived.Deep.DeepCutAuto
import Derived.Test.YtknidkkhbkfpkabPut2
namespace Go.Proofs.Ytknidkkhbkfpkab
open Go.Proofs Go.RowKit Go.Shelf

theorem ints_lit (W : World) (zs : List Int) (n : Nat) (hn : n = W.heap.size + 1) : Ints n (W.alloc (.cells (zs.map (Value.int .i64)).toArray 3)) (some ⟨W.heap.size, 0, none⟩) zs := by
  subst hn
  intro j hj
  refine ⟨W.heap.size, 0, rfl, by omega, ?_⟩
  rw [cell_at (World.alloc_heap_new W _)]
  simp [hj]

set_option maxHeartbeats 400000 in
theorem fxga_any (w : World) : Calls Try.prog 29 #[] w fun e w' => ∃ a, e = .returned (.slice a 4 4) ∧ Ints w'.heap.size w' a [4, -1, 2, 0] ∧ Below w.heap.size w w' := by
  have h := ints_lit w [4, -1, 2, 0] _ rfl
  simp only [List.map_cons, List.map_nil] at h
  go_enter Try.func29, Try.ntmps29
  go_wp2
  go_ret
  exact ⟨_, rfl, by simpa using h, (Below.refl _ _).alloc (Nat.le_refl _) _⟩

end Go.Proofs.Ytknidkkhbkfpkab
