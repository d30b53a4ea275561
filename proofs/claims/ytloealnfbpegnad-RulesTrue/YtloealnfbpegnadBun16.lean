/-
  What RulesTrue leans on: sums, and what stands in the term that a step comes to.
-/
import Derived.Test.YtloealnfbpegnadBun12
import Derived.Test.YtloealnfbpegnadBun15
import Derived.Test.YtloealnfbpegnadBun11
namespace Go.Proofs.Ytloealnfbpegnad
open Go.Proofs Go.RowKit Go.Shelf Go.Maps

theorem Tm.stepErr_term {rs : RuleL} {t : List Int} (h : Tm.stepErr rs t = 0) : Tm.rulesErr rs = 0 ∧ Tm.err t = 0 ∧ Tm.allE rs t t.length = 0 := by
  unfold Tm.stepErr at h
  by_cases h1 : Tm.rulesErr rs = 0
  · rw [if_pos h1] at h
    by_cases h2 : Tm.err t = 0
    · rw [if_pos h2] at h; exact ⟨h1, h2, h⟩
    · rw [if_neg h2] at h; exact absurd h h2
  · rw [if_neg h1] at h; exact absurd h h1
theorem len_no {n : Nat} (h : n ≠ 0) : ((n : Int) == 0) = false := by rw [beq_eq_false_iff_ne]; omega
theorem len_yes {n : Nat} (h : n = 0) : ((n : Int) == 0) = true := by rw [beq_iff_eq]; omega
theorem Tm.over_le (t p : List Int) : (Tm.overVal t p).length ≤ t.length := by
  unfold Tm.overVal
  split
  · have := overL_le (t := t) (p := p) (placesTo t t.length)
    rw [placesTo_length t t.length (Nat.le_refl _)] at this
    exact this
  · simp
theorem Tm.sum_le {g : Nat → Nat} {c : Nat} (h : ∀ k, g k ≤ c) : ∀ n, Tm.sum g n ≤ n * c := by
  intro n
  induction n with
  | zero => simp [Tm.sum]
  | succ n ih => simp only [Tm.sum]; rw [Nat.succ_mul]; have := h n; omega
/-- Is the sign a symbol, or among the first j of t? -/
def isB (s : Int) (t : List Int) (j : Nat) : Bool := decide (0 ≤ s) || (t.take j).any fun x => x == s
theorem isB_zero (s : Int) (t : List Int) : isB s t 0 = decide (0 ≤ s) := by simp [isB]
theorem isB_succ {s : Int} {t : List Int} {j : Nat} (h : j < t.length) : isB s t (j + 1) = (isB s t j || (t[j]?.getD 0 == s)) := by
  unfold isB
  rw [take_snoc h, List.any_append, Bool.or_assoc]
  simp
theorem isB_all {s : Int} {t : List Int} (h : s < 0 → s ∈ t) : isB s t t.length = true := by
  unfold isB
  by_cases h0 : 0 ≤ s
  · simp [h0]
  · rw [List.take_length]
    have := h (by omega)
    simp [this]
/-- All that is asked of a step. -/
theorem Tm.step_true {rk : List Int} {rs : RuleL} {t : List Int} (h1 : Tm.fallsErr rk rs = 0) (h2 : Tm.stepErr rs t = 0) {j : Nat} (hj : j < (Tm.stepVal rs t).length) :
    Tm.aboveErr rk t ((Tm.stepVal rs t)[j]?.getD (0, 0, [])).2.2 = 0 ∧ (Tm.fallsVal rk rs = true → Tm.aboveVal rk t ((Tm.stepVal rs t)[j]?.getD (0, 0, [])).2.2 = true) ∧ Tm.err ((Tm.stepVal rs t)[j]?.getD (0, 0, [])).2.2 = 0 ∧
      ∀ s ∈ ((Tm.stepVal rs t)[j]?.getD (0, 0, [])).2.2, s < 0 → s ∈ t := by
  have hr : Tm.rankErr rk = 0 := by
    unfold Tm.fallsErr at h1
    by_cases h : Tm.rankErr rk = 0
    · exact h
    · rw [if_neg h] at h1; exact absurd h1 h
  unfold Tm.stepErr at h2
  have hru : Tm.rulesErr rs = 0 := by
    by_cases h : Tm.rulesErr rs = 0
    · exact h
    · rw [if_neg h] at h2; exact absurd h2 h
  rw [if_pos hru] at h2
  have ht : Tm.err t = 0 := by
    by_cases h : Tm.err t = 0
    · exact h
    · rw [if_neg h] at h2; exact absurd h2 h
  rw [if_pos ht] at h2
  have hv : Tm.stepVal rs t = Tm.allL rs t t.length := by
    unfold Tm.stepVal Tm.stepErr
    rw [if_pos hru, if_pos ht, if_pos h2]
  rw [hv] at hj ⊢
  obtain ⟨x, hx⟩ : ∃ x, (Tm.allL rs t t.length)[j]?.getD (0, 0, []) = x := ⟨_, rfl⟩
  have hm : x ∈ Tm.allL rs t t.length := by rw [← hx, List.getElem?_eq_getElem hj, Option.getD_some]; exact List.getElem_mem hj
  rw [hx]
  obtain ⟨ha, hk, hb, hu⟩ := Tm.allL_mem _ hm
  have he := Tm.allE_all _ h2 _ ha _ hk hb
  obtain ⟨_, hall⟩ := Tm.rulesErr_ok hru
  obtain ⟨eL, eR, _, _, _, ef⟩ := Tm.ruleErr_ok (hall _ hk)
  obtain ⟨m, hs⟩ := Tm.hit_step hru ht ha hk hb he
  rw [← hu] at hs
  obtain ⟨_, _, _, eu⟩ := hs.parts eL eR ht ha
  have hae := Tm.aboveErr_of hr ht eu
  refine ⟨hae, fun hf => ?_, eu, hs.novar eR ef⟩
  refine (Tm.aboveVal_iff hae).2 (hs.below eL eR ht ha ?_)
  refine (Tm.aboveVal_iff (Tm.aboveErr_of hr eL eR)).1 ?_
  unfold Tm.fallsVal Tm.fallsErr at hf
  rw [if_pos hr, if_pos hru] at hf
  unfold Tm.fallsB at hf
  rw [List.all_eq_true] at hf
  have := hf rs[x.1] (List.getElem_mem hk)
  simpa [hk] using this
theorem Tm.step_count {rs : RuleL} {t : List Int} (h2 : Tm.stepErr rs t = 0) : (Tm.stepVal rs t).length = Tm.sum (fun k => (Tm.overVal t (rs[k]?.getD ([], [])).1).length) rs.length := by
  have h0 := h2
  unfold Tm.stepErr at h2
  have hru : Tm.rulesErr rs = 0 := by
    by_cases h : Tm.rulesErr rs = 0
    · exact h
    · rw [if_neg h] at h2; exact absurd h2 h
  rw [if_pos hru] at h2
  have ht : Tm.err t = 0 := by
    by_cases h : Tm.err t = 0
    · exact h
    · rw [if_neg h] at h2; exact absurd h2 h
  unfold Tm.stepVal
  rw [if_pos h0]
  exact Tm.steps_count hru ht

end Go.Proofs.Ytloealnfbpegnad
