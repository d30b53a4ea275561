/-
  rules.Steps, whatever it is handed. · Literal rules; hasplaw.group, rulesBegun.
-/
import Derived.Test.YtkjncjlombjlfaaBpa7
import Derived.Test.YtkjncjlombjlfaaBpa5
import Derived.Test.YtkjncjlombjlfaaBpa6
namespace Go.Proofs.Ytkjncjlombjlfaa
open Go.Proofs Go.RowKit Go.Shelf Go.Maps

end Go.Proofs.Ytkjncjlombjlfaa

namespace Go.Proofs.Ytkjncjlombjlfaa
open Go.Proofs Go.RowKit Go.Shelf Go.Maps

def groupL : RuleL := [([4, 0, -1], [-1]), ([4, 2, -1, -1], [0]), ([4, 4, -1, -2, -3], [4, -1, 4, -2, -3])]
def sixL : List (List Int) := [[4, 0, -1], [-1], [4, 2, -1, -1], [0], [4, 4, -1, -2, -3], [4, -1, 4, -2, -3]]
/-- One step of those that came, where it lies. -/
theorem NewT.at {base : Nat} {W : World} {v : Value} {sts : StepL} (h : NewT base W v sts) (hp : 0 < sts.length) : ∃ g cap, v = .slice (some ⟨g, 0, none⟩) sts.length cap ∧ ∀ j, j < sts.length → ∃ ad c, W.cell? ⟨g, j * 3, none⟩ = some (.int .i64 ((sts[j]?.getD (0, 0, [])).1 : Int)) ∧ W.cell? ⟨g, j * 3 + 1, none⟩ = some (.int .i64 ((sts[j]?.getD (0, 0, [])).2.1 : Int)) ∧
    W.cell? ⟨g, j * 3 + 2, none⟩ = some (.slice ad (sts[j]?.getD (0, 0, [])).2.2.length c) ∧ Ints W.heap.size W ad (sts[j]?.getD (0, 0, [])).2.2 ∧ (sts[j]?.getD (0, 0, [])).2.2.length ≤ c ∧ c ≤ maxLen := by
  obtain ⟨us, h1, h2⟩ := h
  have hl : us.length = sts.length * 3 := h1.1
  rcases h1.2 with ⟨rfl, hn⟩ | ⟨g, cap, cur, rfl, r⟩
  · omega
  · refine ⟨g, cap, rfl, fun j hj => ?_⟩
    obtain ⟨u, q1, q2, q3, hN⟩ := h2 j hj
    obtain ⟨ad, c, rfl, hI, c1, c2⟩ := New.ints hN
    have cc := fun k hk => World.ownsRow.cellAt h1 k hk
    exact ⟨ad, c, by rw [cc _ (by omega), q1], by rw [cc _ (by omega), q2], by rw [cc _ (by omega), q3], hI, c1, c2⟩

end Go.Proofs.Ytkjncjlombjlfaa
