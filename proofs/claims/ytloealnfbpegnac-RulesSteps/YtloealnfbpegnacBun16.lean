/-
  How many steps there may be. · haspref.SameSteps, of lists that are the same.
-/
import Derived.Test.YtloealnfbpegnacBun12
import Derived.Deep.QuietTactic
import Derived.BigQuiet
import Derived.Test.YtloealnfbpegnacBun14
namespace Go.Proofs.Ytloealnfbpegnac
open Go.Proofs Go.RowKit Go.Shelf Go.Maps

theorem Tm.stepVal_le (rs : RuleL) (t : List Int) : (Tm.stepVal rs t).length ≤ 1000 := by
  unfold Tm.stepVal
  by_cases h : Tm.stepErr rs t = 0
  · rw [if_pos h]
    unfold Tm.stepErr at h
    by_cases h1 : Tm.rulesErr rs = 0
    · rw [if_pos h1] at h
      by_cases h2 : Tm.err t = 0
      · have h3 := Tm.allL_le rs t t.length
        have h4 := Tm.err_len h2
        have h5 := (Tm.rulesErr_ok h1).1
        have h6 : t.length * rs.length ≤ 30 * 8 := Nat.mul_le_mul h4 h5
        omega
      · rw [if_neg h2] at h; exact absurd h h2
    · rw [if_neg h1] at h; exact absurd h h1
  · rw [if_neg h]; simp

end Go.Proofs.Ytloealnfbpegnac

namespace Go.Proofs.Ytloealnfbpegnac
open Go.Proofs Go.RowKit Go.Shelf Go.Maps

/-- Steps that can be read. -/
def StepsAt (n : Nat) (W : World) (v : Value) (sts : StepL) : Prop := ∃ a c, v = .slice a sts.length c ∧ ∀ j, j < sts.length → ∃ g, a = some ⟨g, 0, none⟩ ∧ g < n ∧ ∃ ad c', W.cell? ⟨g, j * 3, none⟩ = some (.int .i64 ((sts[j]?.getD (0, 0, [])).1 : Int)) ∧ W.cell? ⟨g, j * 3 + 1, none⟩ = some (.int .i64 ((sts[j]?.getD (0, 0, [])).2.1 : Int)) ∧
    W.cell? ⟨g, j * 3 + 2, none⟩ = some (.slice ad (sts[j]?.getD (0, 0, [])).2.2.length c') ∧ Ints n W ad (sts[j]?.getD (0, 0, [])).2.2 ∧ (sts[j]?.getD (0, 0, [])).2.2.length ≤ c' ∧ c' ≤ maxLen
theorem NewT.steps {base : Nat} {W : World} {v : Value} {sts : StepL} (h : NewT base W v sts) : StepsAt W.heap.size W v sts := by
  obtain ⟨a, c, rfl⟩ := h.slice
  refine ⟨a, c, rfl, fun j hj => ?_⟩
  obtain ⟨g, cap, e, hat⟩ := h.at (by omega)
  cases e
  obtain ⟨ad, c', c0, c1, c2, i, q⟩ := hat j hj
  exact ⟨g, rfl, by simpa using lt_of_cell c0, ad, c', c0, c1, c2, i, q⟩
theorem StepsAt.below {n : Nat} {A B : World} (h : Below n A B) {v : Value} {sts : StepL} (hi : StepsAt n A v sts) : StepsAt n B v sts := by
  obtain ⟨a, c, rfl, hat⟩ := hi
  refine ⟨a, c, rfl, fun j hj => ?_⟩
  obtain ⟨g, e, hg, ad, c', c0, c1, c2, i, q⟩ := hat j hj
  exact ⟨g, e, hg, ad, c', (h.cell (p := ⟨g, j * 3, none⟩) hg).trans c0, (h.cell (p := ⟨g, j * 3 + 1, none⟩) hg).trans c1, (h.cell (p := ⟨g, j * 3 + 2, none⟩) hg).trans c2, i.below h, q⟩
theorem StepsAt.mono {n m : Nat} (hnm : n ≤ m) {A : World} {v : Value} {sts : StepL} (hi : StepsAt n A v sts) : StepsAt m A v sts := by
  obtain ⟨a, c, rfl, hat⟩ := hi
  refine ⟨a, c, rfl, fun j hj => ?_⟩
  obtain ⟨g, e, hg, ad, c', c0, c1, c2, i, q⟩ := hat j hj
  exact ⟨g, e, by omega, ad, c', c0, c1, c2, i.mono hnm, q⟩

set_option maxRecDepth 100000 in
set_option maxHeartbeats 2000000 in
theorem sameSteps_same (sts : StepL) (u v : Value) (w : World) (hu : StepsAt w.heap.size w u sts) (hv : StepsAt w.heap.size w v sts) (hm : sts.length ≤ 1000) :
    Calls Try.prog 31 #[u, v] w fun e w' => e = .returned (.bool true) ∧ Below w.heap.size w w' := by
  obtain ⟨ua, uc, rfl, hu⟩ := hu
  obtain ⟨va, vc, rfl, hv⟩ := hv
  have hne : ((sts.length : Int) != (sts.length : Int)) = false := by simp
  have hm' : (sts.length : Int) ≤ 1000 := by omega
  have HU := hid hu
  have HV := hid hv
  clear hu hv
  go_enter Try.func31, Try.ntmps31
  go_wp2
  go_loopw [5] (fun i wr => ∃ k : Nat, k ≤ sts.length ∧ i = .int .i64 (k : Int) ∧ Below w.heap.size w wr) (fun i _ => sts.length - (intOf i).toNat)
  case atStart => exact ⟨0, Nat.zero_le _, rfl, Below.refl _ _⟩
  case round =>
    obtain ⟨k, hk, rfl, hB⟩ := hrel
    by_cases hlt : k < sts.length
    · have hlt' : (k : Int) < (sts.length : Int) := by omega
      obtain ⟨g, eg, hg, ad, c', c0, c1, c2, i, q1, q2⟩ := HU.out k hlt
      obtain ⟨g', eg', hg', ad', c'', d0, d1, d2, i', _⟩ := HV.out k hlt
      subst eg eg'
      have c0' := (hB.cell (p := ⟨g, k * 3, none⟩) hg).trans c0
      have c1' := (hB.cell (p := ⟨g, k * 3 + 1, none⟩) hg).trans c1
      have c2' := (hB.cell (p := ⟨g, k * 3 + 2, none⟩) hg).trans c2
      have d0' := (hB.cell (p := ⟨g', k * 3, none⟩) hg').trans d0
      have d1' := (hB.cell (p := ⟨g', k * 3 + 1, none⟩) hg').trans d1
      have d2' := (hB.cell (p := ⟨g', k * 3 + 2, none⟩) hg').trans d2
      have HS := hid (fun n : Nat => same_quiet (sts[k]?.getD (0, 0, [])).2.2 (sts[k]?.getD (0, 0, [])).2.2 ad ad' c' c'' w.heap.size (wr.drewN n) (i.below hB) (i'.below hB) (by omega))
      rw [show sameB (sts[k]?.getD (0, 0, [])).2.2 (sts[k]?.getD (0, 0, [])).2.2 = true by simp [sameB]] at HS
      clear c0 c1 c2 d0 d1 d2 i i' q1 q2
      generalize (sts[k]?.getD (0, 0, [])).2.2 = t at *
      generalize (sts[k]?.getD (0, 0, [])).2.1 = p at *
      generalize (sts[k]?.getD (0, 0, [])).1 = r at *
      have e1 : ((r : Int) != (r : Int)) = false := by simp
      have e2 : ((p : Int) != (p : Int)) = false := by simp
      go_wp2
      go_quiet ((go_at_call 10; exact Calls.quiet_of (HS.out _)))
      go_wp2
      go_roundw
      case rel => exact ⟨k + 1, by omega, by go_num, below_drewN hB _⟩
      case measure => simp [intOf]; omega
    · obtain rfl : k = sts.length := by omega
      go_wp2
      go_ret
      exact ⟨rfl, hB⟩

end Go.Proofs.Ytloealnfbpegnac
