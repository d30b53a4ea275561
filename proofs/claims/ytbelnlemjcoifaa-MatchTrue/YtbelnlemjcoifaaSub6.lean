/-
  hasplaw.some; sub.After, haspref.AfterOf.
-/
import Derived.Test.YtbelnlemjcoifaaSub5
namespace Go.Proofs.Ytbelnlemjcoifaa
open Go.Proofs Go.RowKit Go.Shelf

def Tm.someL : List (List Int) := [[2, -2], [-1], [-3], [-4], [-5], [-6], [-7], [-8]]
theorem Tm.someL_eq : ((Tm.noneL 8).set 0 [2, -2]).set 1 [-1] = Tm.someL := by decide

set_option maxRecDepth 100000 in
set_option maxHeartbeats 400000 in
theorem some_any (w : World) : Calls Try.prog 57 #[] w fun e w' => ∃ v, e = .returned v ∧ NewS w.heap.size w' v Tm.someL ∧ Below w.heap.size w w' := by
  go_enter Try.func57, Try.ntmps57
  go_wp2_with fail
  refine (noneOf_any _).mono ?_
  rintro e w1 ⟨v, rfl, hN, hB⟩
  have hlen : (Tm.noneL 8).length = 8 := Tm.noneL_length 8
  obtain ⟨g, c, rfl⟩ : ∃ g c, v = .slice (some ⟨g, 0, none⟩) 8 c := by
    obtain ⟨us, h1, _⟩ := hN
    rw [hlen] at h1
    exact ownsRow_succ h1
  have hl1 := New.lit w.heap.size w1 [2, -2] hB.size (by unfold maxLen; simp)
  simp only [List.map_cons, List.map_nil, List.length_cons, List.length_nil, Nat.zero_add, Nat.reduceAdd] at hl1
  have hl2 := New.lit w.heap.size (w1.alloc (.cells #[.int .i64 2, .int .i64 (-2)] 3)) [-1] (by have := hB.size; simp; omega) (by unfold maxLen; simp)
  simp only [List.map_cons, List.map_nil, List.length_cons, List.length_nil, Nat.zero_add, World.size_alloc] at hl2
  have hN2 := (hN.alloc (.cells #[.int .i64 2, .int .i64 (-2)] 3)).alloc (.cells #[.int .i64 (-1)] 3)
  have hu1 := hl1.alloc (.cells #[.int .i64 (-1)] 3)
  have hS1 := hN2.set (by rw [hlen]) hu1 0
  have hg : w.heap.size ≤ g ∧ g < ((w1.alloc (.cells #[.int .i64 2, .int .i64 (-2)] 3)).alloc (.cells #[.int .i64 (-1)] 3)).heap.size := by
    obtain ⟨us, h1, _⟩ := hN2
    exact World.ownsRow.lt h1 g rfl
  have hu2 : New w.heap.size ((((w1.alloc (.cells #[.int .i64 2, .int .i64 (-2)] 3)).alloc (.cells #[.int .i64 (-1)] 3))).setCell ⟨g, 0, none⟩ (.slice (some ⟨w1.heap.size, 0, none⟩) 2 2)) (.slice (some ⟨w1.heap.size + 1, 0, none⟩) 1 1) [-1] := by
    obtain ⟨us, h1, _⟩ := hN2
    exact World.ownsRow.kept hl2 (grownBy_setCell1 _ g 0 _) (by have := New.apart hl2 h1; simpa [Value.ownBlock] using this)
  have hS2 := hS1.set (by rw [List.length_set, hlen]) hu2 1
  rw [Tm.someL_eq] at hS2
  have hB2 : Below w.heap.size w ((((w1.alloc (.cells #[.int .i64 2, .int .i64 (-2)] 3)).alloc (.cells #[.int .i64 (-1)] 3)).setCell ⟨g, 0, none⟩ (.slice (some ⟨w1.heap.size, 0, none⟩) 2 2)).setCell ⟨g, 1, none⟩ (.slice (some ⟨w1.heap.size + 1, 0, none⟩) 1 1)) :=
    (((hB.alloc hB.size _).alloc (by have := hB.size; simp; omega) _).setCell (p := ⟨g, 0, none⟩) hg.1 _).setCell (p := ⟨g, 1, none⟩) hg.1 _
  obtain ⟨us, h1, _⟩ := hN2
  rw [hlen] at h1
  have c0 := World.ownsRow.cellAt h1 0 (by omega)
  have c1 := World.ownsRow.cellAt h1 1 (by omega)
  have f0 := World.ownsRow.frozenAt h1 0
  have f1 := World.ownsRow.frozenAt h1 1
  have hus : us.length = 8 := by have := h1.1; omega
  obtain ⟨x0, hx0⟩ : ∃ x, us[0]? = some x := ⟨us[0], by simp⟩
  obtain ⟨x1, hx1⟩ : ∃ x, us[1]? = some x := ⟨us[1], by simp⟩
  rw [hx0] at c0
  rw [hx1] at c1
  have HS2 := hid hS2
  have HB2 := hid hB2
  clear hS2 hB2 hu2 hS1 hu1 h1 hN hl1 hl2 hlen hg hus hx0 hx1
  go_wp2
  go_ret
  exact ⟨_, rfl, HS2.out, HB2.out⟩

end Go.Proofs.Ytbelnlemjcoifaa
