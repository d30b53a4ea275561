/-
  rules.Steps, whatever it is handed. · Literal rules; hasplaw.group, rulesBegun.
-/
import Derived.Test.YtgeknojpcjadkaaBln15
import Derived.Test.YtgeknojpcjadkaaBln7
import Derived.Test.YtgeknojpcjadkaaBln11
namespace Go.Proofs.Ytgeknojpcjadkaa
open Go.Proofs Go.RowKit Go.Shelf Go.Maps

end Go.Proofs.Ytgeknojpcjadkaa

namespace Go.Proofs.Ytgeknojpcjadkaa
open Go.Proofs Go.RowKit Go.Shelf Go.Maps

def groupL : RuleL := [([4, 0, -1], [-1]), ([4, 2, -1, -1], [0]), ([4, 4, -1, -2, -3], [4, -1, 4, -2, -3])]
def sixL : List (List Int) := [[4, 0, -1], [-1], [4, 2, -1, -1], [0], [4, 4, -1, -2, -3], [4, -1, 4, -2, -3]]
theorem group_lit (w : World) : RulesAt ((allocs w sixL).alloc (.cells #[.slice (some ⟨w.heap.size, 0, none⟩) 3 3, .slice (some ⟨w.heap.size + 1, 0, none⟩) 1 1, .slice (some ⟨w.heap.size + 1 + 1, 0, none⟩) 4 4, .slice (some ⟨w.heap.size + 1 + 1 + 1, 0, none⟩) 1 1, .slice (some ⟨w.heap.size + 1 + 1 + 1 + 1, 0, none⟩) 5 5, .slice (some ⟨w.heap.size + 1 + 1 + 1 + 1 + 1, 0, none⟩) 5 5] 39)).heap.size ((allocs w sixL).alloc (.cells #[.slice (some ⟨w.heap.size, 0, none⟩) 3 3, .slice (some ⟨w.heap.size + 1, 0, none⟩) 1 1, .slice (some ⟨w.heap.size + 1 + 1, 0, none⟩) 4 4, .slice (some ⟨w.heap.size + 1 + 1 + 1, 0, none⟩) 1 1, .slice (some ⟨w.heap.size + 1 + 1 + 1 + 1, 0, none⟩) 5 5, .slice (some ⟨w.heap.size + 1 + 1 + 1 + 1 + 1, 0, none⟩) 5 5] 39)) (some ⟨w.heap.size + 1 + 1 + 1 + 1 + 1 + 1, 0, none⟩) groupL ∧
    Below w.heap.size w ((allocs w sixL).alloc (.cells #[.slice (some ⟨w.heap.size, 0, none⟩) 3 3, .slice (some ⟨w.heap.size + 1, 0, none⟩) 1 1, .slice (some ⟨w.heap.size + 1 + 1, 0, none⟩) 4 4, .slice (some ⟨w.heap.size + 1 + 1 + 1, 0, none⟩) 1 1, .slice (some ⟨w.heap.size + 1 + 1 + 1 + 1, 0, none⟩) 5 5, .slice (some ⟨w.heap.size + 1 + 1 + 1 + 1 + 1, 0, none⟩) 5 5] 39)) := by
  have hs := allocs_size sixL w
  have hb := allocs_below sixL w
  have hi := allocs_ints sixL w
  have h6 : sixL.length = 6 := rfl
  rw [h6] at hs hi
  obtain ⟨W6, hW⟩ : ∃ W6, allocs w sixL = W6 := ⟨_, rfl⟩
  rw [hW] at hs hb hi ⊢
  obtain ⟨C, hC⟩ : ∃ C : Array Value, #[.slice (some ⟨w.heap.size, 0, none⟩) 3 3, .slice (some ⟨w.heap.size + 1, 0, none⟩) 1 1, .slice (some ⟨w.heap.size + 1 + 1, 0, none⟩) 4 4, .slice (some ⟨w.heap.size + 1 + 1 + 1, 0, none⟩) 1 1, .slice (some ⟨w.heap.size + 1 + 1 + 1 + 1, 0, none⟩) 5 5, .slice (some ⟨w.heap.size + 1 + 1 + 1 + 1 + 1, 0, none⟩) 5 5] = C := ⟨_, rfl⟩
  rw [hC]
  have blk := World.alloc_heap_new W6 (.cells C 39)
  have hb6 : Below W6.heap.size W6 (W6.alloc (.cells C 39)) := (Below.refl _ W6).alloc (Nat.le_refl _) _
  rw [hs] at blk hb6
  rw [World.size_alloc, hs]
  refine ⟨rulesAt_of blk (by omega) fun k hk => ?_, hb.trans (hb6.mono (by omega))⟩
  have hk' : k < 3 := hk
  have hx := fun i hi6 => ((hi i hi6).below hb6).mono (show w.heap.size + 6 ≤ w.heap.size + 6 + 1 by omega)
  subst hC
  match k, hk' with
  | 0, _ => exact ⟨_, _, rfl, rfl, hx 0 (by omega), hx 1 (by omega), by decide, by decide⟩
  | 1, _ => exact ⟨_, _, rfl, rfl, hx 2 (by omega), hx 3 (by omega), by decide, by decide⟩
  | 2, _ => exact ⟨_, _, rfl, rfl, hx 4 (by omega), hx 5 (by omega), by decide, by decide⟩

set_option maxRecDepth 100000 in
set_option maxHeartbeats 1000000 in
theorem group_any (w : World) : Calls Try.prog 44 #[] w fun e w' => ∃ a, e = .returned (.slice a 3 3) ∧ RulesAt w'.heap.size w' a groupL ∧ Below w.heap.size w w' := by
  have h := hid (group_lit w)
  go_enter Try.func44, Try.ntmps44
  go_wp2
  go_ret
  exact ⟨_, rfl, h.out.1, h.out.2⟩

/-- One step of those that came, where it lies. -/
theorem NewT.at {base : Nat} {W : World} {v : Value} {sts : StepL} (h : NewT base W v sts) (hp : 0 < sts.length) : ∃ g cap, v = .slice (some ⟨g, 0, none⟩) sts.length cap ∧ ∀ j, j < sts.length → ∃ ad c, W.cell? ⟨g, j * 3, none⟩ = some (.int .i64 ((sts[j]?.getD (0, 0, [])).1 : Int)) ∧ W.cell? ⟨g, j * 3 + 1, none⟩ = some (.int .i64 ((sts[j]?.getD (0, 0, [])).2.1 : Int)) ∧
    W.cell? ⟨g, j * 3 + 2, none⟩ = some (.slice ad (sts[j]?.getD (0, 0, [])).2.2.length c) ∧ Ints W.heap.size W ad (sts[j]?.getD (0, 0, [])).2.2 ∧ (sts[j]?.getD (0, 0, [])).2.2.length ≤ c ∧ c ≤ maxLen := by
  obtain ⟨us, h1, h2⟩ := h
  have hl : us.length = sts.length * 3 := h1.1
  rcases h1.2 with ⟨rfl, hn⟩ | ⟨g, cap, cur, rfl, r⟩
  · omega
  · refine ⟨g, cap, rfl, fun j hj => ?_⟩
    obtain ⟨u, q1, q2, q3, hN⟩ := h2 j hj
    obtain ⟨ad, c, rfl, hI, c1, c2⟩ := New.ints hN
    have cc := fun k hk => World.ownsRow.cellAt h1 k hk
    exact ⟨ad, c, by rw [cc _ (by omega), q1], by rw [cc _ (by omega), q2], by rw [cc _ (by omega), q3], hI, c1, c2⟩

end Go.Proofs.Ytgeknojpcjadkaa
