/-
  PLAIN MATHEMATICS of RulesTrue: which steps there are; how many; each goes to what is below, and brings no new variable. · What RulesTrue leans on: sums, and what stands in the term that a step comes to. · norm.Form, norm.Is. · hasplaw.normBegun.
-/
import Derived.Test.YtloealnfbpegnadBun12
import Derived.Test.YtloealnfbpegnadBun15
import Derived.Test.YtloealnfbpegnadBun11
namespace Go.Proofs.Ytloealnfbpegnad
open Go.Proofs Go.RowKit Go.Shelf Go.Maps

theorem Tm.rowL_mem {rs : RuleL} {t : List Int} {a : Nat} {x : Nat × Nat × List Int} : ∀ n, x ∈ Tm.rowL rs t a n → x.1 < n ∧ x.2.1 = a ∧ Tm.hitB rs t a x.1 = true ∧ x.2.2 = Tm.hitVal rs t a x.1 := by
  intro n
  induction n with
  | zero => intro h; simp [Tm.rowL] at h
  | succ n ih =>
    intro h
    rw [Tm.rowL, List.mem_append] at h
    rcases h with h | h
    · obtain ⟨h1, h2⟩ := ih h
      exact ⟨by omega, h2⟩
    · split at h
      · simp only [List.mem_cons, List.not_mem_nil, or_false] at h
        subst h
        exact ⟨by simp, rfl, by assumption, rfl⟩
      · simp at h
theorem Tm.allL_mem {rs : RuleL} {t : List Int} {x : Nat × Nat × List Int} : ∀ m, x ∈ Tm.allL rs t m → x.2.1 < m ∧ x.1 < rs.length ∧ Tm.hitB rs t x.2.1 x.1 = true ∧ x.2.2 = Tm.hitVal rs t x.2.1 x.1 := by
  intro m
  induction m with
  | zero => intro h; simp [Tm.allL] at h
  | succ m ih =>
    intro h
    rw [Tm.allL, List.mem_append] at h
    rcases h with h | h
    · obtain ⟨h1, h2⟩ := ih h
      exact ⟨by omega, h2⟩
    · obtain ⟨h1, h2, h3, h4⟩ := Tm.rowL_mem _ h
      rw [h2]
      exact ⟨by omega, h1, h3, h4⟩
theorem Tm.rowE_all {rs : RuleL} {t : List Int} {a : Nat} : ∀ n, Tm.rowE rs t a n = 0 → ∀ k, k < n → Tm.hitB rs t a k = true → Tm.hitErr rs t a k = 0 := by
  intro n
  induction n with
  | zero => intro _ k hk; omega
  | succ n ih =>
    intro h k hk hb
    rw [Tm.rowE] at h
    by_cases h0 : Tm.rowE rs t a n = 0
    · rw [if_pos h0] at h
      by_cases e : k = n
      · subst e; rw [if_pos hb] at h; exact h
      · exact ih h0 k (by omega) hb
    · rw [if_neg h0] at h; exact absurd h h0
theorem Tm.allE_all {rs : RuleL} {t : List Int} : ∀ m, Tm.allE rs t m = 0 → ∀ a, a < m → ∀ k, k < rs.length → Tm.hitB rs t a k = true → Tm.hitErr rs t a k = 0 := by
  intro m
  induction m with
  | zero => intro _ a ha; omega
  | succ m ih =>
    intro h a ha
    rw [Tm.allE] at h
    by_cases h0 : Tm.allE rs t m = 0
    · rw [if_pos h0] at h
      by_cases e : a = m
      · subst e; exact Tm.rowE_all _ h
      · exact ih h0 a (by omega)
    · rw [if_neg h0] at h; exact absurd h h0

/-! How many. -/
def Tm.cnt (f : Nat → Bool) : Nat → Nat
  | 0 => 0
  | n + 1 => Tm.cnt f n + (if f n = true then 1 else 0)
def Tm.sum (g : Nat → Nat) : Nat → Nat
  | 0 => 0
  | n + 1 => Tm.sum g n + g n
theorem Tm.sum_add (f g : Nat → Nat) : ∀ m, Tm.sum (fun a => f a + g a) m = Tm.sum f m + Tm.sum g m := by
  intro m
  induction m with
  | zero => rfl
  | succ m ih => simp only [Tm.sum, ih]; omega
theorem Tm.sum_zero : ∀ m, Tm.sum (fun _ => 0) m = 0 := by
  intro m
  induction m with
  | zero => rfl
  | succ m ih => simp only [Tm.sum, ih]
theorem Tm.sum_cnt (f : Nat → Bool) : ∀ m, Tm.sum (fun a => if f a = true then 1 else 0) m = Tm.cnt f m := by
  intro m
  induction m with
  | zero => rfl
  | succ m ih => simp only [Tm.sum, Tm.cnt, ih]
theorem Tm.sum_swap (h : Nat → Nat → Bool) (m : Nat) : ∀ n, Tm.sum (fun a => Tm.cnt (h a) n) m = Tm.sum (fun k => Tm.cnt (fun a => h a k) m) n := by
  intro n
  induction n with
  | zero => simp only [Tm.cnt, Tm.sum]; exact Tm.sum_zero m
  | succ n ih => simp only [Tm.cnt, Tm.sum]; rw [Tm.sum_add, ih, Tm.sum_cnt]
theorem Tm.sum_congr {f g : Nat → Nat} : ∀ m, (∀ a, a < m → f a = g a) → Tm.sum f m = Tm.sum g m := by
  intro m
  induction m with
  | zero => intro _; rfl
  | succ m ih => intro h; simp only [Tm.sum]; rw [ih (fun a ha => h a (by omega)), h m (by omega)]
theorem Tm.rowL_cnt (rs : RuleL) (t : List Int) (a : Nat) : ∀ n, (Tm.rowL rs t a n).length = Tm.cnt (Tm.hitB rs t a) n := by
  intro n
  induction n with
  | zero => rfl
  | succ n ih =>
    rw [Tm.rowL, List.length_append, ih, Tm.cnt]
    split <;> simp
theorem Tm.allL_cnt (rs : RuleL) (t : List Int) : ∀ m, (Tm.allL rs t m).length = Tm.sum (fun a => Tm.cnt (Tm.hitB rs t a) rs.length) m := by
  intro m
  induction m with
  | zero => rfl
  | succ m ih => rw [Tm.allL, List.length_append, ih, Tm.rowL_cnt]; rfl
theorem overL_cnt (t p : List Int) : ∀ m, m ≤ t.length → (overL t p (placesTo t m)).length = Tm.cnt (fun a => (Tm.fit p (Tm.part t a)).isSome) m := by
  intro m
  induction m with
  | zero => intro _; rfl
  | succ m ih =>
    intro h
    rw [placesTo_succ (by omega), Tm.cnt, ← ih (by omega)]
    cases hf : Tm.fit p (Tm.part t m) with
    | none => rw [overL_no _ ⟨m, by omega⟩ hf]; simp
    | some x => rw [overL_yes _ ⟨m, by omega⟩ hf]; simp
/-- There are steps just where a rule's L fits. -/
theorem Tm.steps_count {rs : RuleL} {t : List Int} (hr : Tm.rulesErr rs = 0) (ht : Tm.err t = 0) : (Tm.allL rs t t.length).length = Tm.sum (fun k => (Tm.overVal t (rs[k]?.getD ([], [])).1).length) rs.length := by
  obtain ⟨_, hall⟩ := Tm.rulesErr_ok hr
  rw [Tm.allL_cnt, Tm.sum_swap]
  refine Tm.sum_congr _ fun k hk => ?_
  have hL := (Tm.ruleErr_ok (hall k hk)).1
  unfold Tm.overVal
  rw [if_pos (Tm.fitErr_of ht hL), overL_cnt t _ t.length (Nat.le_refl _)]
  have : ∀ m, m ≤ t.length → Tm.cnt (fun a => Tm.hitB rs t a k) m = Tm.cnt (fun a => (Tm.fit (rs[k]?.getD ([], [])).1 (Tm.part t a)).isSome) m := by
    intro m
    induction m with
    | zero => intro _; rfl
    | succ m ih => intro h; rw [Tm.cnt, Tm.cnt, ih (by omega), Tm.hitB_fit hL ht (by omega)]
  exact this _ (Nat.le_refl _)

/-! What a step is. -/
/-- A step of a right term by a rule that is right. -/
structure Tm.Step1 (L R t u : List Int) (a : Nat) (m : Asg) : Prop where
  fit : Tm.fit L (Tm.part t a) = some m
  goes : u = Tm.put t a (Tm.applied (Tm.fitL m 8) R)
  small : u.length ≤ 30
theorem Tm.hit_step {rs : RuleL} {t : List Int} {a k : Nat} (hr : Tm.rulesErr rs = 0) (ht : Tm.err t = 0) (ha : a < t.length) (hk : k < rs.length) (hb : Tm.hitB rs t a k = true) (he : Tm.hitErr rs t a k = 0) :
    ∃ m, Tm.Step1 (rs[k]?.getD ([], [])).1 (rs[k]?.getD ([], [])).2 t (Tm.hitVal rs t a k) a m := by
  obtain ⟨_, hall⟩ := Tm.rulesErr_ok hr
  obtain ⟨hL, hR, _⟩ := Tm.ruleErr_ok (hall k hk)
  rw [Tm.hitB_fit hL ht ha, Option.isSome_iff_exists] at hb
  obtain ⟨m, hm⟩ := hb
  obtain ⟨e1, e2⟩ := Tm.hit_fit hL hR ht ha hm
  rw [he] at e1
  by_cases h30 : 30 < (Tm.put t a (Tm.applied (Tm.fitL m 8) (rs[k]?.getD ([], [])).2)).length
  · rw [if_pos h30] at e1; omega
  · rw [if_neg h30] at e2
    exact ⟨m, hm, e2, by rw [e2]; omega⟩
theorem Tm.put_self (t : List Int) (a : Nat) : Tm.put t a (Tm.part t a) = t := by rw [Tm.put_eq]; exact (Tm.split t a).symm
theorem Tm.Step1.parts {L R t u : List Int} {a : Nat} {m : Asg} (h : Tm.Step1 L R t u a m) (hL : Tm.err L = 0) (hR : Tm.err R = 0) (ht : Tm.err t = 0) (ha : a < t.length) :
    Terms (Tm.fitL m 8) ∧ Tm.applied (Tm.fitL m 8) L = Tm.part t a ∧ Tm.err (Tm.applied (Tm.fitL m 8) R) = 0 ∧ Tm.err u = 0 := by
  have hs := Terms.of (Tm.subErr_fitL hL (Tm.part_err ht ha) h.fit)
  have hl := h.small
  have hle := Tm.applied_put_le (t := t) (u := Tm.applied (Tm.fitL m 8) R) (a := a)
  rw [← h.goes] at hle
  have hu := Tm.err_applied hs hR (by omega)
  refine ⟨hs, Tm.fit_makes hL (Tm.part_err ht ha) h.fit, hu, ?_⟩
  rw [h.goes]
  exact Tm.put_err ht hu ha (by rw [← h.goes]; exact hl)
/-- Of a rule that falls the step goes to what is below. -/
theorem Tm.Step1.below {r : Int → Int} {L R t u : List Int} {a : Nat} {m : Asg} (h : Tm.Step1 L R t u a m) (hL : Tm.err L = 0) (hR : Tm.err R = 0) (ht : Tm.err t = 0) (ha : a < t.length) (hg : Tm.Gt r L R) : Tm.Gt r t u := by
  obtain ⟨hs, e1, e2, _⟩ := h.parts hL hR ht ha
  have h1 := Tm.Gt.stays hs hg hL hR
  have h2 := Tm.Gt.within h1 (by rw [e1]; exact Tm.part_err ht ha) e2 _ t a (Nat.lt_succ_self _) ht ha
  rw [e1, Tm.put_self, ← h.goes] at h2
  exact h2
/-- What is in what a variable of L becomes is in the term. -/
theorem Tm.fit_in (p t : List Int) : ∀ (n i k : Nat) (m m' : Asg), p.length - i = n → i ≤ p.length → (∀ x z, m x = some z → ∀ s ∈ z, s ∈ t) → Tm.fitGo t (p.drop i) k m = some m' → ∀ x z, m' x = some z → ∀ s ∈ z, s ∈ t := by
  intro n
  induction n with
  | zero =>
    intro i k m m' hn hi hm h
    obtain rfl : i = p.length := by omega
    rw [List.drop_length, Tm.fitGo_nil] at h
    cases h
    exact hm
  | succ n ih =>
    intro i k m m' hn hi hm h
    have hlt : i < p.length := by omega
    rw [List.drop_eq_getElem_cons hlt, Tm.fitGo] at h
    by_cases hs : p[i] < 0
    · rw [if_pos hs] at h
      by_cases hc : (m p[i]).isSome = true ∧ m p[i] ≠ some (Tm.part t k)
      · rw [if_pos hc] at h; cases h
      · rw [if_neg hc] at h
        refine ih (i + 1) (Tm.endAt t k) _ m' (by omega) (by omega) (fun x z hx => ?_) h
        by_cases e : x = p[i]
        · subst e
          rw [upd_same] at hx
          cases hx
          exact fun s hs => List.mem_of_mem_drop (List.mem_of_mem_take hs)
        · rw [upd_other _ _ e] at hx
          exact hm x z hx
    · rw [if_neg hs] at h
      by_cases hu : t[k]?.getD 0 = p[i]
      · rw [if_pos hu] at h
        exact ih (i + 1) (k + 1) m m' (by omega) (by omega) hm h
      · rw [if_neg hu] at h; cases h
/-- Each variable of L has something. -/
theorem Tm.fit_has (p t : List Int) : ∀ (n i k : Nat) (m m' : Asg), p.length - i = n → i ≤ p.length → Tm.fitGo t (p.drop i) k m = some m' → (∀ x, (m x).isSome = true → (m' x).isSome = true) ∧ ∀ s ∈ p.drop i, s < 0 → (m' s).isSome = true := by
  intro n
  induction n with
  | zero =>
    intro i k m m' hn hi h
    obtain rfl : i = p.length := by omega
    rw [List.drop_length, Tm.fitGo_nil] at h
    cases h
    exact ⟨fun _ h => h, fun s hs => by simp at hs⟩
  | succ n ih =>
    intro i k m m' hn hi h
    have hlt : i < p.length := by omega
    rw [List.drop_eq_getElem_cons hlt, Tm.fitGo] at h
    by_cases hs : p[i] < 0
    · rw [if_pos hs] at h
      by_cases hc : (m p[i]).isSome = true ∧ m p[i] ≠ some (Tm.part t k)
      · rw [if_pos hc] at h; cases h
      · rw [if_neg hc] at h
        obtain ⟨h1, h2⟩ := ih (i + 1) (Tm.endAt t k) _ m' (by omega) (by omega) h
        have hp := h1 p[i] (by rw [upd_same]; rfl)
        refine ⟨fun x hx => ?_, fun s hm hn => ?_⟩
        · by_cases e : x = p[i]
          · subst e; exact hp
          · exact h1 x (by rw [upd_other _ _ e]; exact hx)
        · rw [List.drop_eq_getElem_cons hlt, List.mem_cons] at hm
          rcases hm with rfl | hm
          · exact hp
          · exact h2 s hm hn
    · rw [if_neg hs] at h
      by_cases hu : t[k]?.getD 0 = p[i]
      · rw [if_pos hu] at h
        obtain ⟨h1, h2⟩ := ih (i + 1) (k + 1) m m' (by omega) (by omega) h
        refine ⟨h1, fun s hm hn => ?_⟩
        rw [List.drop_eq_getElem_cons hlt, List.mem_cons] at hm
        rcases hm with rfl | hm
        · exact absurd hn hs
        · exact h2 s hm hn
      · rw [if_neg hu] at h; cases h
theorem Tm.hasB_mem {zs : List Int} {x : Int} (h : Tm.hasB zs x = true) : x ∈ zs := by
  unfold Tm.hasB at h
  simpa using h
/-- A step brings no new variable. -/
theorem Tm.Step1.novar {L R t u : List Int} {a : Nat} {m : Asg} (h : Tm.Step1 L R t u a m) (hR : Tm.err R = 0) (hf : R.any (freeIn L) = false) : ∀ s ∈ u, s < 0 → s ∈ t := by
  intro s hs hn
  rw [h.goes, Tm.put_eq, List.mem_append, List.mem_append] at hs
  rcases hs with hs | hs | hs
  · exact List.mem_of_mem_take hs
  · rw [Tm.applied_fitL R (Tm.err_all hR), List.mem_flatMap] at hs
    obtain ⟨x, hx, hs⟩ := hs
    unfold Tm.found at hs
    by_cases hx0 : x < 0
    · rw [if_pos hx0] at hs
      have hfr : freeIn L x = false := by
        rw [List.any_eq_false] at hf
        simpa using hf x hx
      have hL : x ∈ L := by
        unfold freeIn at hfr
        rw [decide_eq_true hx0, Bool.true_and, Bool.not_eq_false'] at hfr
        exact Tm.hasB_mem hfr
      have hm := (Tm.fit_has L (Tm.part t a) _ 0 0 _ m rfl (by omega) (by simpa [Tm.fit] using h.fit)).2 x (by simpa using hL) hx0
      obtain ⟨z, hz⟩ := Option.isSome_iff_exists.1 hm
      rw [hz, Option.getD_some] at hs
      have := Tm.fit_in L (Tm.part t a) _ 0 0 (fun _ => none) m rfl (by omega) (fun x z h => by cases h) (by simpa [Tm.fit] using h.fit) x z hz s hs
      exact List.mem_of_mem_drop (List.mem_of_mem_take this)
    · rw [if_neg hx0] at hs
      simp at hs
      omega
  · exact List.mem_of_mem_drop hs

end Go.Proofs.Ytloealnfbpegnad

namespace Go.Proofs.Ytloealnfbpegnad
open Go.Proofs Go.RowKit Go.Shelf Go.Maps

theorem Tm.stepErr_term {rs : RuleL} {t : List Int} (h : Tm.stepErr rs t = 0) : Tm.rulesErr rs = 0 ∧ Tm.err t = 0 ∧ Tm.allE rs t t.length = 0 := by
  unfold Tm.stepErr at h
  by_cases h1 : Tm.rulesErr rs = 0
  · rw [if_pos h1] at h
    by_cases h2 : Tm.err t = 0
    · rw [if_pos h2] at h; exact ⟨h1, h2, h⟩
    · rw [if_neg h2] at h; exact absurd h h2
  · rw [if_neg h1] at h; exact absurd h h1
theorem len_no {n : Nat} (h : n ≠ 0) : ((n : Int) == 0) = false := by rw [beq_eq_false_iff_ne]; omega
theorem len_yes {n : Nat} (h : n = 0) : ((n : Int) == 0) = true := by rw [beq_iff_eq]; omega
theorem Tm.over_le (t p : List Int) : (Tm.overVal t p).length ≤ t.length := by
  unfold Tm.overVal
  split
  · have := overL_le (t := t) (p := p) (placesTo t t.length)
    rw [placesTo_length t t.length (Nat.le_refl _)] at this
    exact this
  · simp
theorem Tm.sum_le {g : Nat → Nat} {c : Nat} (h : ∀ k, g k ≤ c) : ∀ n, Tm.sum g n ≤ n * c := by
  intro n
  induction n with
  | zero => simp [Tm.sum]
  | succ n ih => simp only [Tm.sum]; rw [Nat.succ_mul]; have := h n; omega
/-- Is the sign a symbol, or among the first j of t? -/
def isB (s : Int) (t : List Int) (j : Nat) : Bool := decide (0 ≤ s) || (t.take j).any fun x => x == s
theorem isB_zero (s : Int) (t : List Int) : isB s t 0 = decide (0 ≤ s) := by simp [isB]
theorem isB_succ {s : Int} {t : List Int} {j : Nat} (h : j < t.length) : isB s t (j + 1) = (isB s t j || (t[j]?.getD 0 == s)) := by
  unfold isB
  rw [take_snoc h, List.any_append, Bool.or_assoc]
  simp
theorem isB_all {s : Int} {t : List Int} (h : s < 0 → s ∈ t) : isB s t t.length = true := by
  unfold isB
  by_cases h0 : 0 ≤ s
  · simp [h0]
  · rw [List.take_length]
    have := h (by omega)
    simp [this]
/-- All that is asked of a step. -/
theorem Tm.step_true {rk : List Int} {rs : RuleL} {t : List Int} (h1 : Tm.fallsErr rk rs = 0) (h2 : Tm.stepErr rs t = 0) {j : Nat} (hj : j < (Tm.stepVal rs t).length) :
    Tm.aboveErr rk t ((Tm.stepVal rs t)[j]?.getD (0, 0, [])).2.2 = 0 ∧ (Tm.fallsVal rk rs = true → Tm.aboveVal rk t ((Tm.stepVal rs t)[j]?.getD (0, 0, [])).2.2 = true) ∧ Tm.err ((Tm.stepVal rs t)[j]?.getD (0, 0, [])).2.2 = 0 ∧
      ∀ s ∈ ((Tm.stepVal rs t)[j]?.getD (0, 0, [])).2.2, s < 0 → s ∈ t := by
  have hr : Tm.rankErr rk = 0 := by
    unfold Tm.fallsErr at h1
    by_cases h : Tm.rankErr rk = 0
    · exact h
    · rw [if_neg h] at h1; exact absurd h1 h
  unfold Tm.stepErr at h2
  have hru : Tm.rulesErr rs = 0 := by
    by_cases h : Tm.rulesErr rs = 0
    · exact h
    · rw [if_neg h] at h2; exact absurd h2 h
  rw [if_pos hru] at h2
  have ht : Tm.err t = 0 := by
    by_cases h : Tm.err t = 0
    · exact h
    · rw [if_neg h] at h2; exact absurd h2 h
  rw [if_pos ht] at h2
  have hv : Tm.stepVal rs t = Tm.allL rs t t.length := by
    unfold Tm.stepVal Tm.stepErr
    rw [if_pos hru, if_pos ht, if_pos h2]
  rw [hv] at hj ⊢
  obtain ⟨x, hx⟩ : ∃ x, (Tm.allL rs t t.length)[j]?.getD (0, 0, []) = x := ⟨_, rfl⟩
  have hm : x ∈ Tm.allL rs t t.length := by rw [← hx, List.getElem?_eq_getElem hj, Option.getD_some]; exact List.getElem_mem hj
  rw [hx]
  obtain ⟨ha, hk, hb, hu⟩ := Tm.allL_mem _ hm
  have he := Tm.allE_all _ h2 _ ha _ hk hb
  obtain ⟨_, hall⟩ := Tm.rulesErr_ok hru
  obtain ⟨eL, eR, _, _, _, ef⟩ := Tm.ruleErr_ok (hall _ hk)
  obtain ⟨m, hs⟩ := Tm.hit_step hru ht ha hk hb he
  rw [← hu] at hs
  obtain ⟨_, _, _, eu⟩ := hs.parts eL eR ht ha
  have hae := Tm.aboveErr_of hr ht eu
  refine ⟨hae, fun hf => ?_, eu, hs.novar eR ef⟩
  refine (Tm.aboveVal_iff hae).2 (hs.below eL eR ht ha ?_)
  refine (Tm.aboveVal_iff (Tm.aboveErr_of hr eL eR)).1 ?_
  unfold Tm.fallsVal Tm.fallsErr at hf
  rw [if_pos hr, if_pos hru] at hf
  unfold Tm.fallsB at hf
  rw [List.all_eq_true] at hf
  have := hf rs[x.1] (List.getElem_mem hk)
  simpa [hk] using this
theorem Tm.step_count {rs : RuleL} {t : List Int} (h2 : Tm.stepErr rs t = 0) : (Tm.stepVal rs t).length = Tm.sum (fun k => (Tm.overVal t (rs[k]?.getD ([], [])).1).length) rs.length := by
  have h0 := h2
  unfold Tm.stepErr at h2
  have hru : Tm.rulesErr rs = 0 := by
    by_cases h : Tm.rulesErr rs = 0
    · exact h
    · rw [if_neg h] at h2; exact absurd h2 h
  rw [if_pos hru] at h2
  have ht : Tm.err t = 0 := by
    by_cases h : Tm.err t = 0
    · exact h
    · rw [if_neg h] at h2; exact absurd h2 h
  unfold Tm.stepVal
  rw [if_pos h0]
  exact Tm.steps_count hru ht

end Go.Proofs.Ytloealnfbpegnad

namespace Go.Proofs.Ytloealnfbpegnad
open Go.Proofs Go.RowKit Go.Shelf Go.Maps

/-- G1: always the first of the steps, k having been taken. -/
def Tm.fm (rs : RuleL) : Nat → List Int → Nat → List Int × Nat × Int
  | 0, _, _ => ([], 0, 2)
  | f + 1, t, k => if Tm.stepErr rs t = 0 then (match Tm.stepVal rs t with | [] => (t, k, 0) | s :: _ => Tm.fm rs f s.2.2 (k + 1)) else ([], 0, Tm.stepErr rs t)
def Tm.form (rs : RuleL) (t : List Int) : List Int × Nat × Int := Tm.fm rs 61 t 0
theorem Tm.fm_bad {rs : RuleL} {t : List Int} {f k : Nat} (h : Tm.stepErr rs t ≠ 0) : Tm.fm rs (f + 1) t k = ([], 0, Tm.stepErr rs t) := by rw [Tm.fm, if_neg h]
theorem Tm.fm_end {rs : RuleL} {t : List Int} {f k : Nat} (h : Tm.stepErr rs t = 0) (hn : (Tm.stepVal rs t).length = 0) : Tm.fm rs (f + 1) t k = (t, k, 0) := by
  rw [Tm.fm, if_pos h, List.eq_nil_of_length_eq_zero hn]
theorem Tm.fm_go {rs : RuleL} {t : List Int} {f k : Nat} (h : Tm.stepErr rs t = 0) (hn : 0 < (Tm.stepVal rs t).length) : Tm.fm rs (f + 1) t k = Tm.fm rs f ((Tm.stepVal rs t)[0]?.getD (0, 0, [])).2.2 (k + 1) := by
  rw [Tm.fm, if_pos h]
  cases hs : Tm.stepVal rs t with
  | nil => rw [hs] at hn; simp at hn
  | cons s l => rfl
theorem clone_right (zs : List Int) (a : Option Addr) (cap : Nat) (w : World) (he : Tm.err zs = 0) (hI : Ints w.heap.size w a zs) :
    Calls Try.prog 40 #[.slice a zs.length cap] w fun e w' => ∃ v, e = .returned v ∧ New w.heap.size w' v zs ∧ Below w.heap.size w w' := by
  obtain ⟨b, off, rfl, _, _⟩ := hI.at (Tm.err_pos he)
  exact clone_any zs b off cap w (Tm.err_len he) hI

set_option maxRecDepth 100000 in
set_option maxHeartbeats 2000000 in
theorem form_any (rs : RuleL) (t : List Int) (al at' : Option Addr) (cl ct : Nat) (w : World) (hR : RulesAt w.heap.size w al rs) (hT : Ints w.heap.size w at' t) (h1 : t.length ≤ ct) (h2 : ct ≤ maxLen) :
    Calls Try.prog 15 #[.slice al rs.length cl, .slice at' t.length ct] w fun e w' => ∃ v, e = .returned (.tuple #[v, .int .i64 ((Tm.form rs t).2.1 : Int), .int .i64 (Tm.form rs t).2.2]) ∧ New w.heap.size w' v (Tm.form rs t).1 ∧ Below w.heap.size w w' := by
  unfold Tm.form
  generalize hg : Tm.fm rs 61 t 0 = res
  have HR := hid hR
  clear hR
  go_enter Try.func15, Try.ntmps15
  go_wp2
  go_loopw [1, 10] (fun tv v wr => ∃ (k : Nat) (u : List Int) (a : Option Addr) (c : Nat), k ≤ 61 ∧ v = .int .i64 (k : Int) ∧ tv = .slice a u.length c ∧ Hid (Ints wr.heap.size wr a u) ∧ u.length ≤ c ∧ c ≤ maxLen ∧ Hid (Tm.fm rs (61 - k) u k = res) ∧ Below w.heap.size w wr) (fun _ v _ => 61 - (intOf v).toNat)
  case atStart => exact ⟨0, t, at', ct, by omega, rfl, rfl, hid hT, h1, h2, hid hg, Below.refl _ _⟩
  case round =>
    obtain ⟨k, u, a, c, hk, rfl, rfl, hI, hc1, hc2, hst, hB⟩ := hrel
    by_cases hlt : k < 61
    · have hlt' : (k : Int) < 61 := by omega
      have hC := hid (steps_any rs u al a cl c wr ((HR.out.below hB).mono hB.size) hI.out hc1 hc2)
      obtain ⟨f, hf⟩ : ∃ f, 61 - k = f + 1 := ⟨60 - k, by omega⟩
      rw [hf] at hst
      by_cases he : Tm.stepErr rs u = 0
      · obtain ⟨_, hu, _⟩ := Tm.stepErr_term he
        by_cases hn : (Tm.stepVal rs u).length = 0
        · have hr := hid ((Tm.fm_end (f := f) (k := k) he hn).symm.trans hst.out)
          have hCl := hid (fun W (hW : Below wr.heap.size wr W) => clone_right u a c W hu ((hI.out.below hW).mono hW.size))
          unfold StepsAns at hC
          rw [he, List.eq_nil_of_length_eq_zero hn] at hC
          clear he hn hu hst hI
          go_wp2_with (first
            | (go_at_call 10; refine hC.out.mono ?_; clear hC; rintro e w1 ⟨v1, rfl, hN1, b1⟩; obtain ⟨va, vc, rfl⟩ := hN1.slice; have HN := hid hN1; clear hN1)
            | (go_at_call 40; refine (hCl.out w1 b1).mono ?_; clear hCl; rintro e w2 ⟨v2, rfl, hN2, b2⟩; obtain ⟨xa, xc, rfl, _⟩ := New.ints hN2))
          go_ret3
          have B1 := hB.trans (b1.mono hB.size)
          rw [← hr.out]
          exact ⟨_, rfl, hN2.mono B1.size, B1.trans (b2.mono B1.size)⟩
        · have hp : 0 < (Tm.stepVal rs u).length := by omega
          have hr := hid ((Tm.fm_go (f := f) (k := k) he hp).symm.trans hst.out)
          have hle := hid (show (Tm.stepVal rs u).length ≤ 1000 by
            obtain ⟨k1, k2, k3⟩ := Tm.stepErr_term he
            have h3 := Tm.allL_le rs u u.length
            have h4 := Tm.err_len k2
            have h5 := (Tm.rulesErr_ok k1).1
            have h6 : u.length * rs.length ≤ 30 * 8 := Nat.mul_le_mul h4 h5
            unfold Tm.stepVal
            rw [if_pos he]
            omega)
          unfold StepsAns at hC
          rw [he] at hC
          have hff : f = 61 - (k + 1) := by omega
          rw [hff] at hr
          clear he hn hu hst hI hf hff
          generalize Tm.stepVal rs u = sts at *
          have hpi : (0 : Int) < (sts.length : Int) := by omega
          have hne : ((sts.length : Int) == 0) = false := len_no (by omega)
          go_wp2_with (first
            | (go_at_call 10; refine hC.out.mono ?_; clear hC; rintro e w1 ⟨v1, rfl, hN1, b1⟩; obtain ⟨g, cg, rfl, hat⟩ := hN1.at hp; obtain ⟨x0, y0, _, _, c02, i0, q0, q1⟩ := hat 0 hp; clear hat; simp only [Nat.zero_mul, Nat.zero_add] at c02; have HN := hid hN1; clear hN1; generalize (sts[0]?.getD (0, 0, [])).2.2 = u1 at *))
          go_roundw
          case rel => exact ⟨k + 1, u1, x0, y0, by omega, by go_num, rfl, hid i0, q0, q1, hid hr.out, hB.trans (b1.mono hB.size)⟩
          case measure => simp [intOf]; omega
      · have hr := hid ((Tm.fm_bad (f := f) (k := k) he).symm.trans hst.out)
        have hne : (Tm.stepErr rs u != 0) = true := by simpa using he
        unfold StepsAns at hC
        clear he hst hI
        generalize Tm.stepErr rs u = q at *
        go_wp2_with (first
          | (go_at_call 10; refine hC.out.mono ?_; clear hC; rintro e w1 ⟨v1, rfl, hN1, b1⟩; obtain ⟨va, vc, rfl⟩ := hN1.slice; clear hN1))
        go_ret3
        rw [← hr.out]
        exact ⟨_, rfl, New.nil _ _, hB.trans (b1.mono hB.size)⟩
    · obtain rfl : k = 61 := by omega
      have hr := hst.out
      rw [Nat.sub_self, Tm.fm] at hr
      have Hr := hid hr
      clear hr hst hI
      go_wp2
      go_ret3
      rw [← Hr.out]
      exact ⟨_, rfl, New.nil _ _, hB⟩

/-- Is. -/
def Tm.isForm (rs : RuleL) (t : List Int) : Bool := decide (Tm.stepErr rs t = 0) && decide ((Tm.stepVal rs t).length = 0)
set_option maxRecDepth 100000 in
set_option maxHeartbeats 1000000 in
theorem isForm_any (rs : RuleL) (t : List Int) (al at' : Option Addr) (cl ct : Nat) (w : World) (hR : RulesAt w.heap.size w al rs) (hT : Ints w.heap.size w at' t) (h1 : t.length ≤ ct) (h2 : ct ≤ maxLen) :
    Calls Try.prog 16 #[.slice al rs.length cl, .slice at' t.length ct] w fun e w' => e = .returned (.tuple #[.bool (Tm.isForm rs t), .int .i64 (Tm.stepErr rs t)]) ∧ Below w.heap.size w w' := by
  have hC := hid (steps_any rs t al at' cl ct w hR hT h1 h2)
  unfold StepsAns at hC
  unfold Tm.isForm
  clear hR hT h1 h2
  by_cases he : Tm.stepErr rs t = 0
  · rw [he] at hC ⊢
    clear he
    generalize Tm.stepVal rs t = sts at *
    by_cases hn : sts.length = 0
    · obtain rfl := List.eq_nil_of_length_eq_zero hn
      clear hn
      go_enter Try.func16, Try.ntmps16
      go_wp2_with (first
        | (go_at_call 10; refine hC.out.mono ?_; clear hC; rintro e w1 ⟨v1, rfl, hN1, b1⟩; obtain ⟨va, vc, rfl⟩ := hN1.slice; clear hN1))
      go_ret2
      exact ⟨rfl, b1⟩
    · have hne : ((sts.length : Int) == 0) = false := len_no hn
      rw [decide_eq_false hn]
      clear hn
      go_enter Try.func16, Try.ntmps16
      go_wp2_with (first
        | (go_at_call 10; refine hC.out.mono ?_; clear hC; rintro e w1 ⟨v1, rfl, hN1, b1⟩; obtain ⟨va, vc, rfl⟩ := hN1.slice; clear hN1))
      go_ret2
      exact ⟨rfl, b1⟩
  · have hne : (Tm.stepErr rs t == 0) = false := by simpa using he
    rw [decide_eq_false he, Bool.false_and]
    clear he
    generalize Tm.stepErr rs t = q at *
    go_enter Try.func16, Try.ntmps16
    go_wp2_with (first
      | (go_at_call 10; refine hC.out.mono ?_; clear hC; rintro e w1 ⟨v1, rfl, hN1, b1⟩; obtain ⟨va, vc, rfl⟩ := hN1.slice; clear hN1))
    go_ret2
    exact ⟨rfl, b1⟩

end Go.Proofs.Ytloealnfbpegnad

namespace Go.Proofs.Ytloealnfbpegnad
open Go.Proofs Go.RowKit Go.Shelf Go.Maps

theorem Tm.n1 : Tm.form groupL [4, 4, 0, 1, 0] = ([4, 1, 0], 2, 0) := by decide +kernel
theorem Tm.n2 : Tm.isForm groupL [4, 1, 0] = true := by decide +kernel
theorem Tm.n3 : Tm.stepErr groupL [4, 1, 0] = 0 := by decide +kernel
theorem Tm.n4 : Tm.form [([2, -1], [2, -1])] [4, -1, 2, 0] = ([], 0, 2) := by decide +kernel
theorem Tm.n5 : Tm.form [([2, -1], [2, 2, -1])] [4, -1, 2, 0] = ([], 0, 2) := by decide +kernel

/-- Form of group, of a literal. -/
theorem n_form (t u : List Int) (n : Nat) (k : Nat) (a : Option Addr) (w : World) (hn : n = t.length) (hl : t.length ≤ 1000) (hI : RulesAt w.heap.size w a groupL) (h : Tm.form groupL t = (u, k, 0)) :
    Calls Try.prog 15 #[.slice a 3 3, .slice (some ⟨w.heap.size, 0, none⟩) n n] (w.alloc (.cells (t.map (Value.int .i64)).toArray 3)) fun e w' => ∃ v, e = .returned (.tuple #[v, .int .i64 (k : Int), .int .i64 0]) ∧ New w.heap.size w' v u ∧ Below w.heap.size w w' := by
  subst hn
  have hB : Below w.heap.size w (w.alloc (.cells (t.map (Value.int .i64)).toArray 3)) := (Below.refl _ _).alloc (Nat.le_refl _) _
  refine (form_any groupL t a _ 3 t.length _ ((hI.below hB).mono hB.size) (ints_lit w t _ (by simp)) (Nat.le_refl _) (by unfold maxLen; omega)).mono ?_
  rintro e w' ⟨v, rfl, hN, hB'⟩
  rw [h] at hN
  exact ⟨v, by rw [h], hN.mono hB.size, hB.trans (hB'.mono hB.size)⟩
theorem n_is (t : List Int) (n : Nat) (a : Option Addr) (w : World) (hn : n = t.length) (hl : t.length ≤ 1000) (hI : RulesAt w.heap.size w a groupL) (h1 : Tm.isForm groupL t = true) (h2 : Tm.stepErr groupL t = 0) :
    Calls Try.prog 16 #[.slice a 3 3, .slice (some ⟨w.heap.size, 0, none⟩) n n] (w.alloc (.cells (t.map (Value.int .i64)).toArray 3)) fun e w' => e = .returned (.tuple #[.bool true, .int .i64 0]) ∧ Below w.heap.size w w' := by
  subst hn
  have hB : Below w.heap.size w (w.alloc (.cells (t.map (Value.int .i64)).toArray 3)) := (Below.refl _ _).alloc (Nat.le_refl _) _
  refine (isForm_any groupL t a _ 3 t.length _ ((hI.below hB).mono hB.size) (ints_lit w t _ (by simp)) (Nat.le_refl _) (by unfold maxLen; omega)).mono ?_
  rintro e w' ⟨rfl, hB'⟩
  exact ⟨by rw [h1, h2], hB.trans (hB'.mono hB.size)⟩
/-- Form of one literal rule, of f(x,g(a)). -/
theorem n_many (rs : RuleL) (n : Nat) (a b : Option Addr) (w : World) (hn : n = rs.length) (hI : RulesAt w.heap.size w a rs) (hT : Ints w.heap.size w b [4, -1, 2, 0]) (h : Tm.form rs [4, -1, 2, 0] = ([], 0, 2)) :
    Calls Try.prog 15 #[.slice a n n, .slice b 4 4] w fun e w' => ∃ v, e = .returned (.tuple #[v, .int .i64 0, .int .i64 2]) ∧ New w.heap.size w' v [] ∧ Below w.heap.size w w' := by
  subst hn
  refine (form_any rs [4, -1, 2, 0] a b rs.length 4 w hI hT (by simp) (by unfold maxLen; omega)).mono ?_
  rintro e w' ⟨v, rfl, hN, hB'⟩
  rw [h] at hN
  exact ⟨v, by rw [h]; rfl, hN, hB'⟩

end Go.Proofs.Ytloealnfbpegnad
