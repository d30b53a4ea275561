/-
  PLAIN MATHEMATICS of fitting: what comes is a list of terms; by it the one becomes the other, without an error.
-/
import Derived.Test.YtbelnlemjcoifaaMTrue1
namespace Go.Proofs.Ytbelnlemjcoifaa
open Go.Proofs Go.RowKit Go.Shelf

theorem Tm.fit_terms (p t : List Int) (ht : Tm.err t = 0) : ∀ (n i k : Nat) (m m' : Asg), p.length - i = n → i ≤ p.length → Against p t i k → (∀ x z, m x = some z → Tm.err z = 0) → Tm.fitGo t (p.drop i) k m = some m' → ∀ x z, m' x = some z → Tm.err z = 0 := by
  intro n
  induction n with
  | zero =>
    intro i k m m' hn hi ha hm h
    obtain rfl : i = p.length := by omega
    rw [List.drop_length, Tm.fitGo_nil] at h
    cases h
    exact hm
  | succ n ih =>
    intro i k m m' hn hi ha hm h
    have hlt : i < p.length := by omega
    have hk := ha.pos hlt
    rw [List.drop_eq_getElem_cons hlt, Tm.fitGo] at h
    by_cases hs : p[i] < 0
    · rw [if_pos hs] at h
      by_cases hc : (m p[i]).isSome = true ∧ m p[i] ≠ some (Tm.part t k)
      · rw [if_pos hc] at h; cases h
      · rw [if_neg hc] at h
        refine ih (i + 1) (Tm.endAt t k) _ m' (by omega) (by omega) (ha.var hlt (by simpa [hlt] using hs)) (fun x z hx => ?_) h
        by_cases e : x = p[i]
        · subst e; rw [upd_same] at hx; cases hx; exact Tm.part_err ht hk
        · rw [upd_other _ _ e] at hx; exact hm x z hx
    · rw [if_neg hs] at h
      by_cases hu : t[k]?.getD 0 = p[i]
      · rw [if_pos hu] at h
        exact ih (i + 1) (k + 1) m m' (by omega) (by omega) (ha.sym hlt (by simpa [hlt] using hu)) hm h
      · rw [if_neg hu] at h; cases h
theorem Tm.firstErr_zero : ∀ (l : List (List Int)), (∀ t ∈ l, Tm.err t = 0) → Tm.firstErr l = 0 := by
  intro l
  induction l with
  | nil => intro _; rfl
  | cons t l ih =>
    intro h
    unfold Tm.firstErr
    rw [if_pos (h t (by simp))]
    exact ih (fun x hx => h x (by simp [hx]))
theorem Tm.err_var (i : Nat) (h : i < 8) : Tm.err [-1 - (i : Int)] = 0 := by
  refine Tm.err_ok (by simp) ?_ ?_
  · simp [Tm.known]; omega
  · rw [show (1 : Nat) = 0 + 1 from rfl, Tm.run_cons, Tm.room_neg (by omega), Tm.run_zero]; rfl
theorem Tm.subErr_fitL {p t : List Int} {m : Asg} (hp : Tm.err p = 0) (ht : Tm.err t = 0) (h : Tm.fit p t = some m) : Tm.subErr (Tm.fitL m 8) = 0 := by
  have hm := Tm.fit_terms p t ht _ 0 0 (fun _ => none) m rfl (by omega) (Against.start hp ht) (fun x z hx => by cases hx) (by simpa [Tm.fit] using h)
  unfold Tm.subErr
  rw [if_pos (Tm.fitL_length _ _)]
  refine Tm.firstErr_zero _ fun x hx => ?_
  unfold Tm.fitL at hx
  rw [List.mem_map] at hx
  obtain ⟨i, hi, rfl⟩ := hx
  rw [List.mem_range] at hi
  rw [if_pos hi]
  cases e : m (-1 - (i : Int)) with
  | none => exact Tm.err_var i hi
  | some z => exact hm _ z e
/-- By what comes p becomes t, without an error. -/
theorem Tm.fit_apply {p t : List Int} {m : Asg} (hp : Tm.err p = 0) (ht : Tm.err t = 0) (h : Tm.fit p t = some m) : Tm.applyErr (Tm.fitL m 8) p = 0 ∧ Tm.applyVal (Tm.fitL m 8) p = t := by
  obtain ⟨e1, e2⟩ := Tm.apply_ok (Tm.subErr_fitL hp ht h) hp
  have hl := Tm.err_len ht
  rw [Tm.fit_makes hp ht h, if_neg (by omega)] at e1 e2
  exact ⟨e1, e2⟩
theorem Tm.apply_zero {ss : List (List Int)} {p : List Int} (h : Tm.applyErr ss p = 0) : Tm.subErr ss = 0 ∧ Tm.err p = 0 ∧ (Tm.applied ss p).length ≤ 30 ∧ Tm.applyVal ss p = Tm.applied ss p := by
  by_cases hs : Tm.subErr ss = 0
  · by_cases hp : Tm.err p = 0
    · obtain ⟨e1, e2⟩ := Tm.apply_ok hs hp
      rw [h] at e1
      by_cases hl : 30 < (Tm.applied ss p).length
      · rw [if_pos hl] at e1; omega
      · rw [if_neg hl] at e2; exact ⟨hs, hp, by omega, e2⟩
    · rw [(Tm.apply_t hs hp).1] at h; exact absurd h hp
  · rw [(Tm.apply_s hs).1] at h; exact absurd h hs

end Go.Proofs.Ytbelnlemjcoifaa
