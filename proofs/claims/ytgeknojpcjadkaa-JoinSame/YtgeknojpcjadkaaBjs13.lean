/-
  PLAIN MATHEMATICS of RulesTrue: which steps there are; how many; each goes to what is below, and brings no new variable. · PLAIN MATHEMATICS: from lists of signs to trees: each right term is one tree's; what variables become, parts, what is put in a place, and steps. · Lists of steps in new memory: what keeps them; one more behind them, within a round. · signs.Places: the rounds are numbered; the body may leave, or panic. · What stands while rules.Steps goes through places and rules; two results that lie in boxes. · A REGION THAT DRAWS ITS ORDER, WITHIN A ROUND: it runs there as it runs outside of it, if nothing is deferred in it: so the laws that take an operation first (which want that no round is at hand) serve there, too.
-/
import Derived.Test.YtgeknojpcjadkaaBjs12
import Derived.OwnWalkIn
import Derived.RangeFuncBox
import Derived.Test.YtgeknojpcjadkaaBjs8
import Derived.OrdersIn
import Derived.Shelf.RegionOpen
import Derived.RangeFuncCalls
import Derived.Test.YtgeknojpcjadkaaBjs7
namespace Go.Proofs.Ytgeknojpcjadkaa
open Go.Proofs Go.RowKit Go.Shelf Go.Maps

theorem Tm.rowL_mem {rs : RuleL} {t : List Int} {a : Nat} {x : Nat × Nat × List Int} : ∀ n, x ∈ Tm.rowL rs t a n → x.1 < n ∧ x.2.1 = a ∧ Tm.hitB rs t a x.1 = true ∧ x.2.2 = Tm.hitVal rs t a x.1 := by
  intro n
  induction n with
  | zero => intro h; simp [Tm.rowL] at h
  | succ n ih =>
    intro h
    rw [Tm.rowL, List.mem_append] at h
    rcases h with h | h
    · obtain ⟨h1, h2⟩ := ih h
      exact ⟨by omega, h2⟩
    · split at h
      · simp only [List.mem_cons, List.not_mem_nil, or_false] at h
        subst h
        exact ⟨by simp, rfl, by assumption, rfl⟩
      · simp at h
theorem Tm.allL_mem {rs : RuleL} {t : List Int} {x : Nat × Nat × List Int} : ∀ m, x ∈ Tm.allL rs t m → x.2.1 < m ∧ x.1 < rs.length ∧ Tm.hitB rs t x.2.1 x.1 = true ∧ x.2.2 = Tm.hitVal rs t x.2.1 x.1 := by
  intro m
  induction m with
  | zero => intro h; simp [Tm.allL] at h
  | succ m ih =>
    intro h
    rw [Tm.allL, List.mem_append] at h
    rcases h with h | h
    · obtain ⟨h1, h2⟩ := ih h
      exact ⟨by omega, h2⟩
    · obtain ⟨h1, h2, h3, h4⟩ := Tm.rowL_mem _ h
      rw [h2]
      exact ⟨by omega, h1, h3, h4⟩
theorem Tm.rowE_all {rs : RuleL} {t : List Int} {a : Nat} : ∀ n, Tm.rowE rs t a n = 0 → ∀ k, k < n → Tm.hitB rs t a k = true → Tm.hitErr rs t a k = 0 := by
  intro n
  induction n with
  | zero => intro _ k hk; omega
  | succ n ih =>
    intro h k hk hb
    rw [Tm.rowE] at h
    by_cases h0 : Tm.rowE rs t a n = 0
    · rw [if_pos h0] at h
      by_cases e : k = n
      · subst e; rw [if_pos hb] at h; exact h
      · exact ih h0 k (by omega) hb
    · rw [if_neg h0] at h; exact absurd h h0
theorem Tm.allE_all {rs : RuleL} {t : List Int} : ∀ m, Tm.allE rs t m = 0 → ∀ a, a < m → ∀ k, k < rs.length → Tm.hitB rs t a k = true → Tm.hitErr rs t a k = 0 := by
  intro m
  induction m with
  | zero => intro _ a ha; omega
  | succ m ih =>
    intro h a ha
    rw [Tm.allE] at h
    by_cases h0 : Tm.allE rs t m = 0
    · rw [if_pos h0] at h
      by_cases e : a = m
      · subst e; exact Tm.rowE_all _ h
      · exact ih h0 a (by omega)
    · rw [if_neg h0] at h; exact absurd h h0

/-! How many. -/
def Tm.cnt (f : Nat → Bool) : Nat → Nat
  | 0 => 0
  | n + 1 => Tm.cnt f n + (if f n = true then 1 else 0)
def Tm.sum (g : Nat → Nat) : Nat → Nat
  | 0 => 0
  | n + 1 => Tm.sum g n + g n
theorem Tm.sum_add (f g : Nat → Nat) : ∀ m, Tm.sum (fun a => f a + g a) m = Tm.sum f m + Tm.sum g m := by
  intro m
  induction m with
  | zero => rfl
  | succ m ih => simp only [Tm.sum, ih]; omega
theorem Tm.sum_zero : ∀ m, Tm.sum (fun _ => 0) m = 0 := by
  intro m
  induction m with
  | zero => rfl
  | succ m ih => simp only [Tm.sum, ih]
theorem Tm.sum_cnt (f : Nat → Bool) : ∀ m, Tm.sum (fun a => if f a = true then 1 else 0) m = Tm.cnt f m := by
  intro m
  induction m with
  | zero => rfl
  | succ m ih => simp only [Tm.sum, Tm.cnt, ih]
theorem Tm.sum_swap (h : Nat → Nat → Bool) (m : Nat) : ∀ n, Tm.sum (fun a => Tm.cnt (h a) n) m = Tm.sum (fun k => Tm.cnt (fun a => h a k) m) n := by
  intro n
  induction n with
  | zero => simp only [Tm.cnt, Tm.sum]; exact Tm.sum_zero m
  | succ n ih => simp only [Tm.cnt, Tm.sum]; rw [Tm.sum_add, ih, Tm.sum_cnt]
theorem Tm.sum_congr {f g : Nat → Nat} : ∀ m, (∀ a, a < m → f a = g a) → Tm.sum f m = Tm.sum g m := by
  intro m
  induction m with
  | zero => intro _; rfl
  | succ m ih => intro h; simp only [Tm.sum]; rw [ih (fun a ha => h a (by omega)), h m (by omega)]
theorem Tm.rowL_cnt (rs : RuleL) (t : List Int) (a : Nat) : ∀ n, (Tm.rowL rs t a n).length = Tm.cnt (Tm.hitB rs t a) n := by
  intro n
  induction n with
  | zero => rfl
  | succ n ih =>
    rw [Tm.rowL, List.length_append, ih, Tm.cnt]
    split <;> simp
theorem Tm.allL_cnt (rs : RuleL) (t : List Int) : ∀ m, (Tm.allL rs t m).length = Tm.sum (fun a => Tm.cnt (Tm.hitB rs t a) rs.length) m := by
  intro m
  induction m with
  | zero => rfl
  | succ m ih => rw [Tm.allL, List.length_append, ih, Tm.rowL_cnt]; rfl
theorem overL_cnt (t p : List Int) : ∀ m, m ≤ t.length → (overL t p (placesTo t m)).length = Tm.cnt (fun a => (Tm.fit p (Tm.part t a)).isSome) m := by
  intro m
  induction m with
  | zero => intro _; rfl
  | succ m ih =>
    intro h
    rw [placesTo_succ (by omega), Tm.cnt, ← ih (by omega)]
    cases hf : Tm.fit p (Tm.part t m) with
    | none => rw [overL_no _ ⟨m, by omega⟩ hf]; simp
    | some x => rw [overL_yes _ ⟨m, by omega⟩ hf]; simp
/-- There are steps just where a rule's L fits. -/
theorem Tm.steps_count {rs : RuleL} {t : List Int} (hr : Tm.rulesErr rs = 0) (ht : Tm.err t = 0) : (Tm.allL rs t t.length).length = Tm.sum (fun k => (Tm.overVal t (rs[k]?.getD ([], [])).1).length) rs.length := by
  obtain ⟨_, hall⟩ := Tm.rulesErr_ok hr
  rw [Tm.allL_cnt, Tm.sum_swap]
  refine Tm.sum_congr _ fun k hk => ?_
  have hL := (Tm.ruleErr_ok (hall k hk)).1
  unfold Tm.overVal
  rw [if_pos (Tm.fitErr_of ht hL), overL_cnt t _ t.length (Nat.le_refl _)]
  have : ∀ m, m ≤ t.length → Tm.cnt (fun a => Tm.hitB rs t a k) m = Tm.cnt (fun a => (Tm.fit (rs[k]?.getD ([], [])).1 (Tm.part t a)).isSome) m := by
    intro m
    induction m with
    | zero => intro _; rfl
    | succ m ih => intro h; rw [Tm.cnt, Tm.cnt, ih (by omega), Tm.hitB_fit hL ht (by omega)]
  exact this _ (Nat.le_refl _)

/-! What a step is. -/
/-- A step of a right term by a rule that is right. -/
structure Tm.Step1 (L R t u : List Int) (a : Nat) (m : Asg) : Prop where
  fit : Tm.fit L (Tm.part t a) = some m
  goes : u = Tm.put t a (Tm.applied (Tm.fitL m 8) R)
  small : u.length ≤ 30
theorem Tm.hit_step {rs : RuleL} {t : List Int} {a k : Nat} (hr : Tm.rulesErr rs = 0) (ht : Tm.err t = 0) (ha : a < t.length) (hk : k < rs.length) (hb : Tm.hitB rs t a k = true) (he : Tm.hitErr rs t a k = 0) :
    ∃ m, Tm.Step1 (rs[k]?.getD ([], [])).1 (rs[k]?.getD ([], [])).2 t (Tm.hitVal rs t a k) a m := by
  obtain ⟨_, hall⟩ := Tm.rulesErr_ok hr
  obtain ⟨hL, hR, _⟩ := Tm.ruleErr_ok (hall k hk)
  rw [Tm.hitB_fit hL ht ha, Option.isSome_iff_exists] at hb
  obtain ⟨m, hm⟩ := hb
  obtain ⟨e1, e2⟩ := Tm.hit_fit hL hR ht ha hm
  rw [he] at e1
  by_cases h30 : 30 < (Tm.put t a (Tm.applied (Tm.fitL m 8) (rs[k]?.getD ([], [])).2)).length
  · rw [if_pos h30] at e1; omega
  · rw [if_neg h30] at e2
    exact ⟨m, hm, e2, by rw [e2]; omega⟩
theorem Tm.put_self (t : List Int) (a : Nat) : Tm.put t a (Tm.part t a) = t := by rw [Tm.put_eq]; exact (Tm.split t a).symm
theorem Tm.Step1.parts {L R t u : List Int} {a : Nat} {m : Asg} (h : Tm.Step1 L R t u a m) (hL : Tm.err L = 0) (hR : Tm.err R = 0) (ht : Tm.err t = 0) (ha : a < t.length) :
    Terms (Tm.fitL m 8) ∧ Tm.applied (Tm.fitL m 8) L = Tm.part t a ∧ Tm.err (Tm.applied (Tm.fitL m 8) R) = 0 ∧ Tm.err u = 0 := by
  have hs := Terms.of (Tm.subErr_fitL hL (Tm.part_err ht ha) h.fit)
  have hl := h.small
  have hle := Tm.applied_put_le (t := t) (u := Tm.applied (Tm.fitL m 8) R) (a := a)
  rw [← h.goes] at hle
  have hu := Tm.err_applied hs hR (by omega)
  refine ⟨hs, Tm.fit_makes hL (Tm.part_err ht ha) h.fit, hu, ?_⟩
  rw [h.goes]
  exact Tm.put_err ht hu ha (by rw [← h.goes]; exact hl)
/-- Of a rule that falls the step goes to what is below. -/
theorem Tm.Step1.below {r : Int → Int} {L R t u : List Int} {a : Nat} {m : Asg} (h : Tm.Step1 L R t u a m) (hL : Tm.err L = 0) (hR : Tm.err R = 0) (ht : Tm.err t = 0) (ha : a < t.length) (hg : Tm.Gt r L R) : Tm.Gt r t u := by
  obtain ⟨hs, e1, e2, _⟩ := h.parts hL hR ht ha
  have h1 := Tm.Gt.stays hs hg hL hR
  have h2 := Tm.Gt.within h1 (by rw [e1]; exact Tm.part_err ht ha) e2 _ t a (Nat.lt_succ_self _) ht ha
  rw [e1, Tm.put_self, ← h.goes] at h2
  exact h2
/-- What is in what a variable of L becomes is in the term. -/
theorem Tm.fit_in (p t : List Int) : ∀ (n i k : Nat) (m m' : Asg), p.length - i = n → i ≤ p.length → (∀ x z, m x = some z → ∀ s ∈ z, s ∈ t) → Tm.fitGo t (p.drop i) k m = some m' → ∀ x z, m' x = some z → ∀ s ∈ z, s ∈ t := by
  intro n
  induction n with
  | zero =>
    intro i k m m' hn hi hm h
    obtain rfl : i = p.length := by omega
    rw [List.drop_length, Tm.fitGo_nil] at h
    cases h
    exact hm
  | succ n ih =>
    intro i k m m' hn hi hm h
    have hlt : i < p.length := by omega
    rw [List.drop_eq_getElem_cons hlt, Tm.fitGo] at h
    by_cases hs : p[i] < 0
    · rw [if_pos hs] at h
      by_cases hc : (m p[i]).isSome = true ∧ m p[i] ≠ some (Tm.part t k)
      · rw [if_pos hc] at h; cases h
      · rw [if_neg hc] at h
        refine ih (i + 1) (Tm.endAt t k) _ m' (by omega) (by omega) (fun x z hx => ?_) h
        by_cases e : x = p[i]
        · subst e
          rw [upd_same] at hx
          cases hx
          exact fun s hs => List.mem_of_mem_drop (List.mem_of_mem_take hs)
        · rw [upd_other _ _ e] at hx
          exact hm x z hx
    · rw [if_neg hs] at h
      by_cases hu : t[k]?.getD 0 = p[i]
      · rw [if_pos hu] at h
        exact ih (i + 1) (k + 1) m m' (by omega) (by omega) hm h
      · rw [if_neg hu] at h; cases h
/-- Each variable of L has something. -/
theorem Tm.fit_has (p t : List Int) : ∀ (n i k : Nat) (m m' : Asg), p.length - i = n → i ≤ p.length → Tm.fitGo t (p.drop i) k m = some m' → (∀ x, (m x).isSome = true → (m' x).isSome = true) ∧ ∀ s ∈ p.drop i, s < 0 → (m' s).isSome = true := by
  intro n
  induction n with
  | zero =>
    intro i k m m' hn hi h
    obtain rfl : i = p.length := by omega
    rw [List.drop_length, Tm.fitGo_nil] at h
    cases h
    exact ⟨fun _ h => h, fun s hs => by simp at hs⟩
  | succ n ih =>
    intro i k m m' hn hi h
    have hlt : i < p.length := by omega
    rw [List.drop_eq_getElem_cons hlt, Tm.fitGo] at h
    by_cases hs : p[i] < 0
    · rw [if_pos hs] at h
      by_cases hc : (m p[i]).isSome = true ∧ m p[i] ≠ some (Tm.part t k)
      · rw [if_pos hc] at h; cases h
      · rw [if_neg hc] at h
        obtain ⟨h1, h2⟩ := ih (i + 1) (Tm.endAt t k) _ m' (by omega) (by omega) h
        have hp := h1 p[i] (by rw [upd_same]; rfl)
        refine ⟨fun x hx => ?_, fun s hm hn => ?_⟩
        · by_cases e : x = p[i]
          · subst e; exact hp
          · exact h1 x (by rw [upd_other _ _ e]; exact hx)
        · rw [List.drop_eq_getElem_cons hlt, List.mem_cons] at hm
          rcases hm with rfl | hm
          · exact hp
          · exact h2 s hm hn
    · rw [if_neg hs] at h
      by_cases hu : t[k]?.getD 0 = p[i]
      · rw [if_pos hu] at h
        obtain ⟨h1, h2⟩ := ih (i + 1) (k + 1) m m' (by omega) (by omega) h
        refine ⟨h1, fun s hm hn => ?_⟩
        rw [List.drop_eq_getElem_cons hlt, List.mem_cons] at hm
        rcases hm with rfl | hm
        · exact absurd hn hs
        · exact h2 s hm hn
      · rw [if_neg hu] at h; cases h
theorem Tm.hasB_mem {zs : List Int} {x : Int} (h : Tm.hasB zs x = true) : x ∈ zs := by
  unfold Tm.hasB at h
  simpa using h
/-- A step brings no new variable. -/
theorem Tm.Step1.novar {L R t u : List Int} {a : Nat} {m : Asg} (h : Tm.Step1 L R t u a m) (hR : Tm.err R = 0) (hf : R.any (freeIn L) = false) : ∀ s ∈ u, s < 0 → s ∈ t := by
  intro s hs hn
  rw [h.goes, Tm.put_eq, List.mem_append, List.mem_append] at hs
  rcases hs with hs | hs | hs
  · exact List.mem_of_mem_take hs
  · rw [Tm.applied_fitL R (Tm.err_all hR), List.mem_flatMap] at hs
    obtain ⟨x, hx, hs⟩ := hs
    unfold Tm.found at hs
    by_cases hx0 : x < 0
    · rw [if_pos hx0] at hs
      have hfr : freeIn L x = false := by
        rw [List.any_eq_false] at hf
        simpa using hf x hx
      have hL : x ∈ L := by
        unfold freeIn at hfr
        rw [decide_eq_true hx0, Bool.true_and, Bool.not_eq_false'] at hfr
        exact Tm.hasB_mem hfr
      have hm := (Tm.fit_has L (Tm.part t a) _ 0 0 _ m rfl (by omega) (by simpa [Tm.fit] using h.fit)).2 x (by simpa using hL) hx0
      obtain ⟨z, hz⟩ := Option.isSome_iff_exists.1 hm
      rw [hz, Option.getD_some] at hs
      have := Tm.fit_in L (Tm.part t a) _ 0 0 (fun _ => none) m rfl (by omega) (fun x z h => by cases h) (by simpa [Tm.fit] using h.fit) x z hz s hs
      exact List.mem_of_mem_drop (List.mem_of_mem_take this)
    · rw [if_neg hx0] at hs
      simp at hs
      omega
  · exact List.mem_of_mem_drop hs

end Go.Proofs.Ytgeknojpcjadkaa

namespace Go.Proofs.Ytgeknojpcjadkaa
open Go.Proofs Go.RowKit Go.Shelf

theorem Tr.of_err {t : List Int} (h : Tm.err t = 0) : ∃ x : Tr, x.ok ∧ x.flat = t := by
  have ha := Tm.err_all h
  rw [List.all_eq_true] at ha
  exact Tr.of (fun s hs => Tm.known_lt (ha s hs)) (Tm.err_run h)

theorem Tr.sub_flat {ss : List (List Int)} {f : Int → Tr} : ∀ (x : Tr), x.ok → (∀ s ∈ x.flat, s < 0 → (f s).flat = Tm.piece ss s) → (x.sub f).flat = Tm.applied ss x.flat := by
  intro x
  induction x with
  | leaf s =>
    intro _ h
    rw [Tr.sub]
    by_cases hs : s < 0
    · rw [if_pos hs, h s (by simp [Tr.flat]) hs]; simp [Tr.flat, Tm.applied]
    · rw [if_neg hs]; simp [Tr.flat, Tm.applied, Tm.piece, hs]
  | one s a ih =>
    intro ho h
    have hs : ¬ s < 0 := by have := ho.1; omega
    rw [Tr.sub, Tr.flat, ih ho.2 (fun x hx => h x (List.mem_cons_of_mem _ hx)), Tr.flat]
    simp [Tm.applied, Tm.piece, hs]
  | two s a b iha ihb =>
    intro ho h
    have hs : ¬ s < 0 := by have := ho.1; omega
    rw [Tr.sub, Tr.flat, iha ho.2.1 (fun x hx => h x (List.mem_cons_of_mem _ (List.mem_append_left _ hx))), ihb ho.2.2 (fun x hx => h x (List.mem_cons_of_mem _ (List.mem_append_right _ hx))), Tr.flat]
    simp [Tm.applied, Tm.piece, hs]

/-- What stands at a place. -/
theorem Tr.at : ∀ (x : Tr), x.ok → ∀ a, a < x.flat.length → ∃ (C : Cx) (u : Tr) (pre suf : List Int), u.ok ∧ C.fill u = x ∧ pre.length = a ∧ ∀ v : Tr, (C.fill v).flat = pre ++ (v.flat ++ suf) := by
  intro x
  induction x with
  | leaf s =>
    intro h a ha
    exact ⟨.hole, .leaf s, [], [], h, rfl, by simp [Tr.flat] at ha; simp [ha], fun v => by simp [Cx.fill]⟩
  | one s a ih =>
    intro h k hk
    cases k with
    | zero => exact ⟨.hole, .one s a, [], [], h, rfl, rfl, fun v => by simp [Cx.fill]⟩
    | succ k =>
      obtain ⟨C, u, pre, suf, h1, h2, h3, h4⟩ := ih h.2 k (by simpa [Tr.flat] using hk)
      exact ⟨.one s C, u, s :: pre, suf, h1, by rw [Cx.fill, h2], by simp [h3], fun v => by rw [Cx.fill, Tr.flat, h4]; rfl⟩
  | two s a b iha ihb =>
    intro h k hk
    cases k with
    | zero => exact ⟨.hole, .two s a b, [], [], h, rfl, rfl, fun v => by simp [Cx.fill]⟩
    | succ k =>
      by_cases hl : k < a.flat.length
      · obtain ⟨C, u, pre, suf, h1, h2, h3, h4⟩ := iha h.2.1 k hl
        exact ⟨.twoL s C b, u, s :: pre, suf ++ b.flat, h1, by rw [Cx.fill, h2], by simp [h3], fun v => by rw [Cx.fill, Tr.flat, h4]; simp⟩
      · obtain ⟨C, u, pre, suf, h1, h2, h3, h4⟩ := ihb h.2.2 (k - a.flat.length) (by simp [Tr.flat] at hk; omega)
        exact ⟨.twoR s a C, u, s :: (a.flat ++ pre), suf, h1, by rw [Cx.fill, h2], by simp [h3]; omega, fun v => by rw [Cx.fill, Tr.flat, h4]; simp⟩
theorem Tr.part_of {u : Tr} (h : u.ok) (pre suf : List Int) : Tm.endAt (pre ++ (u.flat ++ suf)) pre.length = pre.length + u.flat.length ∧ Tm.part (pre ++ (u.flat ++ suf)) pre.length = u.flat := by
  have e : Tm.endAt (pre ++ (u.flat ++ suf)) pre.length = pre.length + u.flat.length := by
    unfold Tm.endAt
    rw [List.drop_left, Tr.run h suf 0, Tm.run_zero]
    rfl
  refine ⟨e, ?_⟩
  unfold Tm.part
  rw [e, List.drop_left, Nat.add_sub_cancel_left, List.take_left]
theorem Tr.put_of {u : Tr} (h : u.ok) (pre suf us : List Int) : Tm.put (pre ++ (u.flat ++ suf)) pre.length us = pre ++ (us ++ suf) := by
  unfold Tm.put
  rw [(Tr.part_of h pre suf).1, List.take_left, ← List.append_assoc, ← List.length_append, List.drop_left, List.append_assoc]
theorem Cx.flat (C : Cx) : ∃ pre suf : List Int, ∀ v : Tr, (C.fill v).flat = pre ++ (v.flat ++ suf) := by
  induction C with
  | hole => exact ⟨[], [], fun v => by simp [Cx.fill]⟩
  | one s C ih => obtain ⟨pre, suf, h⟩ := ih; exact ⟨s :: pre, suf, fun v => by rw [Cx.fill, Tr.flat, h]; rfl⟩
  | twoL s C b ih => obtain ⟨pre, suf, h⟩ := ih; exact ⟨s :: pre, suf ++ b.flat, fun v => by rw [Cx.fill, Tr.flat, h]; simp⟩
  | twoR s a C ih => obtain ⟨pre, suf, h⟩ := ih; exact ⟨s :: (a.flat ++ pre), suf, fun v => by rw [Cx.fill, Tr.flat, h]; simp⟩

/-- What variables become, as trees. -/
theorem Tr.asg {ss : List (List Int)} (h : Terms ss) : ∃ f : Int → Tr, Tr.Oks f ∧ ∀ s, s < 0 → -8 ≤ s → (f s).flat = Tm.piece ss s := by
  have key : ∀ s : Int, ∃ y : Tr, y.ok ∧ (s < 0 → -8 ≤ s → y.flat = Tm.piece ss s) := fun s => by
    by_cases hs : s < 0 ∧ -8 ≤ s
    · obtain ⟨y, h1, h2⟩ := Tr.of_err (Tm.piece_term h hs.2 hs.1)
      exact ⟨y, h1, fun _ _ => h2⟩
    · exact ⟨.leaf 0, by simp [Tr.ok], fun h1 h2 => absurd ⟨h1, h2⟩ hs⟩
  obtain ⟨f, hf⟩ := Classical.axiomOfChoice key
  exact ⟨f, fun s _ => (hf s).1, fun s => (hf s).2⟩

/-- The rules as trees. -/
def Tr.Rules (rs : RuleL) (Rs : List (Tr × Tr)) : Prop := Rs.map (fun p => (p.1.flat, p.2.flat)) = rs ∧ Tr.RsOk Rs
theorem Tr.Rules.of {rs : RuleL} (h : ∀ p ∈ rs, Tm.err p.1 = 0 ∧ Tm.err p.2 = 0) : ∃ Rs, Tr.Rules rs Rs := by
  induction rs with
  | nil => exact ⟨[], rfl, fun p hp => by cases hp⟩
  | cons q rs ih =>
    obtain ⟨Rs, h1, h2⟩ := ih (fun p hp => h p (List.mem_cons_of_mem _ hp))
    obtain ⟨x, x1, x2⟩ := Tr.of_err (h q List.mem_cons_self).1
    obtain ⟨y, y1, y2⟩ := Tr.of_err (h q List.mem_cons_self).2
    refine ⟨(x, y) :: Rs, by rw [List.map_cons, h1, x2, y2], fun p hp => ?_⟩
    rcases List.mem_cons.1 hp with rfl | hp
    · exact ⟨x1, y1⟩
    · exact h2 p hp
theorem Tr.Rules.err {rs : RuleL} (h : Tm.rulesErr rs = 0) : ∃ Rs, Tr.Rules rs Rs := by
  obtain ⟨_, hall⟩ := Tm.rulesErr_ok h
  refine Tr.Rules.of fun p hp => ?_
  obtain ⟨k, hk, rfl⟩ := List.getElem_of_mem hp
  obtain ⟨hL, hR, _⟩ := Tm.ruleErr_ok (hall k hk)
  rw [List.getElem?_eq_getElem hk] at hL hR
  exact ⟨hL, hR⟩
theorem Tr.Rules.get {rs : RuleL} {Rs : List (Tr × Tr)} (h : Tr.Rules rs Rs) {k : Nat} (hk : k < rs.length) : ∃ l r, (l, r) ∈ Rs ∧ l.flat = (rs[k]?.getD ([], [])).1 ∧ r.flat = (rs[k]?.getD ([], [])).2 := by
  obtain ⟨rfl, _⟩ := h
  have hk' : k < Rs.length := by simpa using hk
  refine ⟨Rs[k].1, Rs[k].2, List.getElem_mem hk', ?_, ?_⟩ <;> simp [hk']

/-- A step of a right term is a step of its tree. -/
theorem Tr.step_of {rs : RuleL} {Rs : List (Tr × Tr)} (hR : Tr.Rules rs Rs) (hr : Tm.rulesErr rs = 0) {t u : List Int} {a k : Nat} {m : Asg} (hk : k < rs.length) (ht : Tm.err t = 0) (ha : a < t.length)
    (h : Tm.Step1 (rs[k]?.getD ([], [])).1 (rs[k]?.getD ([], [])).2 t u a m) {x : Tr} (hx : x.ok) (e : x.flat = t) : ∃ y, y.ok ∧ y.flat = u ∧ Tr.St Rs x y := by
  obtain ⟨_, hall⟩ := Tm.rulesErr_ok hr
  obtain ⟨hL, hR', _⟩ := Tm.ruleErr_ok (hall k hk)
  obtain ⟨l, r, hm, el, er⟩ := hR.get hk
  obtain ⟨hT, e1, e2, e3⟩ := h.parts hL hR' ht ha
  obtain ⟨f, hf, hf'⟩ := Tr.asg hT
  have known : ∀ {z : List Int}, Tm.err z = 0 → ∀ s ∈ z, -8 ≤ s := fun hz s hs => by
    have := Tm.err_all hz
    rw [List.all_eq_true] at this
    have := this s hs
    simp [Tm.known] at this
    omega
  have sl : (l.sub f).flat = Tm.part t a := by rw [Tr.sub_flat l (hR.2 _ hm).1 (fun s hs h0 => hf' s h0 (known hL s (by rw [← el]; exact hs))), el, e1]
  have sr : (r.sub f).flat = Tm.applied (Tm.fitL m 8) (rs[k]?.getD ([], [])).2 := by rw [Tr.sub_flat r (hR.2 _ hm).2 (fun s hs h0 => hf' s h0 (known hR' s (by rw [← er]; exact hs))), er]
  subst e
  obtain ⟨C, v, pre, suf, h1, h2, h3, h4⟩ := Tr.at x hx a ha
  have hxf : x.flat = pre ++ (v.flat ++ suf) := by rw [← h4, h2]
  have hv : v = l.sub f := by
    refine Tr.flat_inj h1 (Tr.sub_ok hf (hR.2 _ hm).1) ?_
    rw [sl, hxf, ← h3, (Tr.part_of h1 pre suf).2]
  have hst : Tr.St Rs x (C.fill (r.sub f)) := by
    rw [← h2, hv]
    exact (Tr.St.root l r f hm hf).fill C
  refine ⟨_, hst.ok hR.2 hx, ?_, hst⟩
  rw [h4, h.goes, hxf, ← h3, Tr.put_of h1, sr]

end Go.Proofs.Ytgeknojpcjadkaa

namespace Go.Proofs.Ytgeknojpcjadkaa
open Go.Proofs Go.RowKit Go.Shelf Go.Maps

theorem row_apart {W : World} {base : Nat} {e : TypeId} {size : Nat} {v : Value} {n : Nat} {us : List Value} (h : W.ownsRow base e size v n us) {row : Option Nat} (hr : ∀ k, row = some k → ∀ cs p, W.heap[k]? ≠ some (.cells cs e p)) : v.ownBlock = none ∨ v.ownBlock ≠ row := by
  rcases h.2 with ⟨rfl, _⟩ | ⟨g, cap, cur, rfl, _, hgb, _⟩
  · exact .inl rfl
  · refine .inr fun e' => ?_
    exact hr g (by rw [← e']; rfl) _ _ hgb
theorem NewT.grown {base : Nat} {W W' : World} {v : Value} {sts : StepL} {row : Option Nat} (h : NewT base W v sts) (hg : W.grownBy W' row) (hr : ∀ k, row = some k → ∀ cs p, W.heap[k]? ≠ some (.cells cs 54 p) ∧ W.heap[k]? ≠ some (.cells cs 3 p)) : NewT base W' v sts := by
  obtain ⟨us, h1, h2⟩ := h
  refine ⟨us, h1.kept hg (row_apart h1 fun k e cs p => (hr k e cs p).1), fun j hj => ?_⟩
  obtain ⟨u, a, b, c, d⟩ := h2 j hj
  exact ⟨u, a, b, c, World.ownsRow.kept d hg (row_apart d fun k e cs p => (hr k e cs p).2)⟩
theorem boxed_ne {W : World} {B : Nat} {t e : TypeId} {x : Value} (h : Boxed W B t x) (hte : t ≠ e) (cs : Array Value) (p : Nat × Nat) : W.heap[B]? ≠ some (.cells cs e p) := by
  rw [show W.heap[B]? = _ from h]
  intro h'
  simp only [Option.some.injEq, Obj.cells.injEq] at h'
  exact hte h'.2.1
theorem NewT.set {base : Nat} {W : World} {v : Value} {sts : StepL} (h : NewT base W v sts) {B : Nat} {t : TypeId} {x : Value} (hb : Boxed W B t x) (h1 : t ≠ 54) (h2 : t ≠ 3) (y : Value) : NewT base (W.setCell ⟨B, 0, none⟩ y) v sts :=
  h.grown (grownBy_setCell' W B y) fun k e cs p => by
    cases e
    exact ⟨boxed_ne hb h1 cs p, boxed_ne hb h2 cs p⟩
theorem NewT.other {base : Nat} {W W' : World} {v : Value} {sts : StepL} {row : Option Nat} (h : NewT base W v sts) (hg : W.grownBy W' row) (hr : ∀ r, row = some r → ∃ o : Obj, W.heap[r]? = some o ∧ o.isCells = false) : NewT base W' v sts :=
  h.grown hg fun k e cs p => by
    obtain ⟨o, ho, hc⟩ := hr k e
    rw [ho]
    refine ⟨?_, ?_⟩ <;> (intro h'; simp only [Option.some.injEq] at h'; subst h'; simp [Obj.isCells] at hc)
theorem NewT.mono {base base' : Nat} {W : World} {v : Value} {sts : StepL} (h : NewT base W v sts) (hb : base' ≤ base) : NewT base' W v sts := by
  obtain ⟨us, h1, h2⟩ := h
  refine ⟨us, ⟨h1.1, h1.2.elim .inl (fun ⟨g, cap, cur, e1, e2, e3⟩ => .inr ⟨g, cap, cur, e1, Nat.le_trans hb e2, e3⟩)⟩, fun j hj => ?_⟩
  obtain ⟨u, a, b, c, d⟩ := h2 j hj
  exact ⟨u, a, b, c, d.mono hb⟩
/-- The list's own block. -/
theorem NewT.block {base : Nat} {W : World} {v : Value} {sts : StepL} (h : NewT base W v sts) {k : Nat} (hk : v.ownBlock = some k) : base ≤ k ∧ ∃ cs p, W.heap[k]? = some (.cells cs 54 p) := by
  obtain ⟨us, h1, _⟩ := h
  rcases h1.2 with ⟨rfl, _⟩ | ⟨g, cap, cur, rfl, hb, hgb, _⟩
  · cases hk
  · obtain rfl : g = k := by simpa [Value.ownBlock] using hk
    exact ⟨hb, _, _, hgb⟩
theorem NewT.slice {base : Nat} {W : World} {v : Value} {sts : StepL} (h : NewT base W v sts) : ∃ a cap, v = .slice a sts.length cap := by
  obtain ⟨us, h1, _⟩ := h
  rcases h1.2 with ⟨rfl, h0⟩ | ⟨g, cap, cur, rfl, _⟩
  · exact ⟨none, 0, by rw [h0]⟩
  · exact ⟨_, _, rfl⟩
theorem Try.infoSteps : Try.prog.underlying 50 = some (.slice 54) := by kernel_rfl

/-- 'append(out, Step{..})', within a round. -/
theorem wpi_append_step {F : Fence} {n : Nat} {ops : Array Oper} {rest : List Oper} {o : Oper} {a : Act} {Q : Exit → Act → World → Prop} (w : World) (hgd : o.guard = none) (s x : Operand)
    (ho : o.op = .call { callee := .builtin .append, args := #[s, x], argTypes := #[50, 50] }) (base : Nat) (v : Value) (sts : StepL) (hs : a.eval s = v) (hN : NewT base w v sts)
    (u : Value) (r p : Nat) (t : List Int) (B : Nat) (hx : a.eval x = .slice (some ⟨B, 0, none⟩) 1 1) (hB0 : w.cell? ⟨B, 0, none⟩ = some (.int .i64 (r : Int))) (hB1 : w.cell? ⟨B, 1, none⟩ = some (.int .i64 (p : Int))) (hB2 : w.cell? ⟨B, 2, none⟩ = some u) (hu : New base w u t) (hlen : sts.length ≤ 1000000) (hbase : base ≤ w.heap.size)
    (h : ∀ v' w', NewT base w' v' (sts ++ [(r, p, t)]) → w.grownBy w' v.ownBlock → (∃ g cap, v' = .slice (some ⟨g, 0, none⟩) (sts.length + 1) cap) → wpListIn F n Try.prog ops Q rest (a.put o.dst v') w') : wpListIn F n Try.prog ops Q (o :: rest) a w := by
  obtain ⟨i0, hi, hz0, hz1, hz2⟩ := info_parts Try.info54
  obtain ⟨us, h1, h2⟩ := hN
  have hul : us.length = sts.length * 3 := h1.1
  refine wpListIn_append_own w hgd s x 50 ho base 54 i0 (.agg #[.int .i64 0, .int .i64 0, .slice none 0 0]) 3 40 Try.infoSteps hi hz0 hz1 hz2 rfl (by decide) v sts.length us hs h1 ⟨B, 0, none⟩ 1 1 [.int .i64 (r : Int), .int .i64 (p : Int), u] hx (by simp)
    (by intro j z hj
        match j, hj with
        | 0, hj => simp at hj; subst hj; rw [Go.WideShapes.add_plain]; simpa using hB0
        | 1, hj => simp at hj; subst hj; rw [Go.WideShapes.add_plain]; simpa using hB1
        | 2, hj => simp at hj; subst hj; rw [Go.WideShapes.add_plain]; simpa using hB2)
    (by intro z hz; simp at hz; obtain ⟨_, _, rfl, _⟩ := New.ints hu; rcases hz with rfl | rfl | rfl <;> rfl) (by unfold maxLen; omega) (by omega) hbase ?_
  intro v' w' hown hg _
  have hkeep : ∀ (u' : Value) (t' : List Int), New base w u' t' → New base w' u' t' := fun u' t' hN' => World.ownsRow.kept hN' hg (New.apartT hN' h1)
  refine h v' w' ⟨us ++ [.int .i64 (r : Int), .int .i64 (p : Int), u], by simpa using hown, fun j hj => ?_⟩ hg (ownsRow_succ hown)
  by_cases hjl : j < sts.length
  · obtain ⟨u', q1, q2, q3, hN'⟩ := h2 j hjl
    rw [List.getElem?_append_left hjl, List.getElem?_append_left (by omega), List.getElem?_append_left (by omega), List.getElem?_append_left (by omega)]
    exact ⟨u', q1, q2, q3, hkeep u' _ hN'⟩
  · have hje : j = sts.length := by simp at hj; omega
    subst hje
    rw [List.getElem?_append_right (Nat.le_refl _), List.getElem?_append_right (by omega), List.getElem?_append_right (by omega), List.getElem?_append_right (by omega), hul]
    refine ⟨u, by simp, by simp, by simp, ?_⟩
    simpa using hkeep u t hu

end Go.Proofs.Ytgeknojpcjadkaa

namespace Go.Proofs.Ytgeknojpcjadkaa
open Go.Proofs Go.RowKit Go.Shelf

attribute [local go_sem] Oper.semAt_some

set_option maxHeartbeats 400000 in
theorem placesx_in (F : Fence) (hF : Pl F) (n : Nat) (a : Option Addr) (len cap : Nat) (w : World) :
    CallsIn F n Try.prog 54 #[.slice a len cap] w fun e w' => e = .returned (.func (.func 90) #[] #[.pointer (some ⟨w.heap.size, 0, none⟩)]) ∧
      w' = w.alloc (.cells #[.slice a len cap] 37) := by
  obtain ⟨hro, hfn, hdd⟩ := fx_facts hF
  have hf := hfn _ _ Try.func54
  clear hF hfn
  refine callsIn_of_wp Try.func54 rfl hf ?_ hro
  simp only [Try.ntmps54, List.size_toArray, List.length_cons, List.length_nil, Nat.reduceAdd, Nat.reduceSub, Array.replicate_succ, Array.replicate_zero, List.push_toArray, List.append_toArray, List.nil_append, List.cons_append]
  gi_wp2
  go_ret
  exact ⟨rfl, rfl⟩

def encPl (zs : List Int) (i : Nat) : Array Value := #[.int .i64 (i : Int), .int .i64 (Tm.endAt zs i : Int)]
/-- What the iterator reads. -/
def PlacesRd (Bt cap : Nat) (a : Option Addr) (zs : List Int) (W : World) : Prop := W.cell? ⟨Bt, 0, none⟩ = some (.slice a zs.length cap) ∧ Ints W.heap.size W a zs

set_option maxRecDepth 100000 in
set_option maxHeartbeats 1000000 in
theorem places_steps (F : Fence) (hF : Pl F) (n Bt cap : Nat) (a : Option Addr) (zs : List Int) (hlen : zs.length ≤ 5000) :
    SeqSteps F n Try.prog 90 #[.pointer (some ⟨Bt, 0, none⟩)] (encPl zs) zs.length (PlacesRd Bt cap a zs) := by
  intro l J Jx Jp W hJ hR hY h0
  obtain ⟨hro, hfn, hdd⟩ := fx_facts hF
  have HE := hid (fun n p W h2 h3 => endx_all F hF zs hlen a cap _ p n (Nat.le_refl _) h2 W h3)
  clear hF
  have hf55 := hfn _ _ Try.func90
  have hf32 := hfn _ _ Try.func89
  obtain ⟨hbt, _⟩ := hR 0 W h0
  have hl5 : (zs.length : Int) ≤ 5000 := by omega
  have HY := hid hY
  have HR := hid hR
  clear hY hR
  refine callsIn_of_wp Try.func90 rfl hf55 ?_ hro
  simp only [Try.ntmps90, List.size_toArray, List.length_cons, List.length_nil, Nat.reduceAdd, Nat.reduceSub, Array.replicate_succ, Array.replicate_zero, List.push_toArray, List.append_toArray, List.nil_append, List.cons_append]
  gi_wp2
  gi_loopw [6] (fun i wr => ∃ m : Nat, m ≤ zs.length ∧ i = .int .i64 (m : Int) ∧ J m wr) (fun i _ => zs.length - (intOf i).toNat)
  case atStart => exact ⟨0, Nat.zero_le _, rfl, h0⟩
  case round =>
    obtain ⟨m, hm, rfl, hJs⟩ := hrel
    obtain ⟨hbt', hI'⟩ := HR.out m wr hJs
    by_cases hlt : m < zs.length
    · have hlt' : (m : Int) < (zs.length : Int) := by omega
      have h1' := (HE.out (n - 1) m wr (by omega) hI').mono (R' := fun e W1 => e = .returned (.int .i64 (Tm.endAt zs m : Int)) ∧ YieldAt F (n - 1) Try.prog l #[.int .i64 (m : Int), .int .i64 (Tm.endAt zs m : Int)] W1 fun e W' =>
          (e = .returned (.bool true) ∧ J (m + 1) W') ∨ (e = .returned (.bool false) ∧ Jx W') ∨ ∃ ch, e = .panicked ch ∧ Jp ch W')
        (fun e W1 ⟨he, hB⟩ => ⟨he, by
          have hJ1 := hJ _ _ _ none hJs (grown_of_below hB) (fun r e => by cases e)
          refine YieldAt.mono (HY.out m W1 hJ1 hlt) fun e W2 h => ?_
          exact h⟩)
      gi_wp2_with (first
        | ((try refine ⟨hdd _, ?_⟩); gi_at_call 89; refine h1'.mono ?_; clear h1'; rintro e W1 ⟨rfl, fn, tmps, assign, body, hy, hR⟩)
        | ((try refine ⟨hdd _, ?_⟩); refine hR.mono ?_; clear hR; rintro e W2 (⟨rfl, hJ2⟩ | ⟨rfl, hx2⟩ | ⟨ch, rfl, hp2⟩)))
      · exact ⟨⟨m + 1, by omega, by go_num, hJ2⟩, by simp [intOf]; omega⟩
      · refine bodyPost_ret (results_none rfl _ _ _) rfl ?_
        exact .inl ⟨⟨_, rfl⟩, .inr hx2⟩
      · exact ⟨rfl, .inr ⟨ch, rfl, hp2⟩⟩
    · obtain rfl : m = zs.length := by omega
      have hlt' : ¬ (zs.length : Int) < (zs.length : Int) := by omega
      gi_wp2
      go_end0
      exact .inl ⟨⟨_, rfl⟩, .inl hJs⟩

end Go.Proofs.Ytgeknojpcjadkaa

namespace Go.Proofs.Ytgeknojpcjadkaa
open Go.Proofs Go.RowKit Go.Shelf Go.Maps

theorem results_box2 {fn : Func} {tmps : Array Value} {w : World} {a b B C : Nat} {ad : Option Addr} {n c : Nat} {x : Int} (h : fn.results = #[.cell a 50, .cell b 31]) (ha : tmps.getD a undef = .pointer (some ⟨B, 0, none⟩)) (hb : tmps.getD b undef = .pointer (some ⟨C, 0, none⟩))
    (hc : w.cell? ⟨B, 0, none⟩ = some (.slice ad n c)) (hd : w.cell? ⟨C, 0, none⟩ = some (.int .i64 x)) : (results fn tmps).run Try.prog w = .ok (.tuple #[.slice ad n c, .int .i64 x]) w := by
  have ha' : tmps[a]?.getD undef = .pointer (some ⟨B, 0, none⟩) := by rw [← ha]; simp
  have hb' : tmps[b]?.getD undef = .pointer (some ⟨C, 0, none⟩) := by rw [← hb]; simp
  simp only [results, h]
  simp [go_sem, ha', hb', hc, hd]

/-- What stands while steps come. -/
structure StInv (w2 : World) (B : Nat) (tv : Value) (l : StepL) (W : World) : Prop where
  out : ∃ v, Boxed W B 50 v ∧ NewT B W v l
  bP : Boxed W (B + 1) 37 tv
  kp : Below B w2 W
theorem StInv.own {w2 X Y : World} {B D : Nat} {tv : Value} {l : StepL} {row : Option Nat} (hB : B ≤ w2.heap.size) (hD : B ≤ D) (h : StInv w2 B tv l X) (hg : X.grownBy Y row) (hr : ∀ r, row = some r → D ≤ r ∧ ∃ o : Obj, X.heap[r]? = some o ∧ o.isCells = false) : StInv w2 B tv l Y := by
  obtain ⟨⟨v, hv, hN⟩, bP, kp⟩ := h
  exact ⟨⟨v, cells_own hv hg hr, hN.other hg (fun r e => (hr r e).2)⟩, cells_own bP hg hr, ⟨hg.os.trans kp.os, hg.tape.trans kp.tape, hg.output.trans kp.output, Nat.le_trans kp.size hg.size, fun k hk => (hg.block k (by have := kp.size; omega) (fun e => by have := (hr k e.symm).1; omega)).trans (kp.block k hk)⟩⟩
theorem StInv.below {w2 W W' : World} {B : Nat} {tv : Value} {l : StepL} (hB : B ≤ w2.heap.size) (h : StInv w2 B tv l W) (hb : Below W.heap.size W W') : StInv w2 B tv l W' := by
  obtain ⟨⟨v, hv, hN⟩, bP, kp⟩ := h
  exact ⟨⟨v, (hb.block _ hv.lt).trans hv, hN.below hb⟩, (hb.block _ bP.lt).trans bP, kp.trans (hb.mono (Nat.le_trans hB kp.size))⟩
theorem keepsFrom_below {C : Nat} {W W' : World} (hb : Below W.heap.size W W') : KeepsFrom C W W' := ⟨hb.size, fun k _ _ ho _ => (hb.block k (Array.getElem?_eq_some_iff.1 ho).1).trans ho⟩
/-- One step more. -/
theorem st_append {w2 W w' : World} {B C : Nat} {tv v v' : Value} {l : StepL} {x : Nat × Nat × List Int} {tmp : Obj} (hB : B ≤ w2.heap.size) (hv : Boxed W B 50 v) (hN : NewT B W v l) (bP : Boxed W (B + 1) 37 tv) (kp : Below B w2 W) (hN' : NewT B w' v' (l ++ [x])) (hg : (W.alloc tmp).grownBy w' v.ownBlock) :
    Boxed w' B 50 v ∧ StInv w2 B tv (l ++ [x]) (w'.setCell ⟨B, 0, none⟩ v') ∧ KeepsFrom C W (w'.setCell ⟨B, 0, none⟩ v') := by
  have hBW : B ≤ W.heap.size := Nat.le_trans hB kp.size
  have hne : ∀ {D : Nat} {e : TypeId} {y : Value}, Boxed W D e y → e ≠ 54 → some D ≠ v.ownBlock := fun hb he e' => by
    obtain ⟨_, cs, p, h⟩ := hN.block e'.symm
    exact boxed_ne hb he cs p h
  have hv1 : Boxed w' B 50 v := (hv.alloc tmp).kept hg (hne hv (by decide))
  have bP1 : Boxed w' (B + 1) 37 tv := (bP.alloc tmp).kept hg (hne bP (by decide))
  refine ⟨hv1, ⟨⟨v', hv1.set v', hN'.set hv1 (by decide) (by decide) v'⟩, (Below.heap_setCell w' ⟨B, 0, none⟩ v' (B + 1) (by show B + 1 ≠ B; omega)).trans bP1, kp.trans ?_⟩, ?_⟩
  · refine (((Below.refl B W).alloc hBW tmp).grown hg (by simp; omega) fun j ej => (hN.block ej).1).setCell (p := ⟨B, 0, none⟩) (Nat.le_refl _) v'
  · refine KeepsOthers.from (((KeepsOthers.alloc W tmp).trans (KeepsOthers.of_grownBy hg fun j o ej hj => ?_)).trans (KeepsOthers.setCell _ _ _)) C
    obtain ⟨_, cs, p, h⟩ := hN.block ej
    have h2 : (W.alloc tmp).heap[j]? = some (.cells cs 54 p) := (Below.heap_alloc W tmp j (Array.getElem?_eq_some_iff.1 h).1).trans h
    rw [h2] at hj
    cases hj
    rfl

end Go.Proofs.Ytgeknojpcjadkaa

namespace Go.Proofs.Ytgeknojpcjadkaa
open Go.Proofs Go.RowKit Go.Shelf

theorem upon_round {F : Fence} {n l : Nat} {P : Program} {o : Oper} {a : Act} {next next' : Act → World → Prop} {Q : Exit → Act → World → Prop} (hm : ∀ a w, next a w → next' a w) (r : Result Next) (h : o.uponIn F n P a next Q r) : o.uponIn (F.inRound l) n P a next' Q r := by
  cases r with
  | ok x w' =>
    cases x with
    | value v => exact hm _ _ h
    | skip => exact hm _ _ h
    | defer d => exact hm _ _ h
    | enter f args =>
      refine ⟨h.1, (CallsIn.inRound l h.2).mono fun e w'' he => ?_⟩
      cases e with
      | returned v => exact hm _ _ he
      | panicked c => exact he
      | outgrown => exact he
    | row row args => exact ⟨h.1, RowsIn.mono (show RowsIn (F.inRound l) (n - 1) P row args w' _ from h.2) fun v w'' he => hm _ _ he⟩
    | round l' f tmps assign body =>
      refine ⟨h.1, RoundIn.mono (show RoundIn (F.inRound l) (n - 1) P l' f tmps assign body w' _ from h.2) fun e w'' he => ?_⟩
      cases e with
      | returned v => exact hm _ _ he
      | panicked c => exact he
      | outgrown => exact he
    | _ => exact h
  | halt x w' => cases x <;> exact h

theorem ops_round {F : Fence} {n l : Nat} {P : Program} {ops : Array Oper} {Q : Exit → Act → World → Prop} (hro : F.round = none) (hnd : ∀ (j : Nat) (o : Oper) (c : Call), ops[j]? = some o → o.op ≠ .defer c) :
    ∀ (order : List Nat) (a : Act) (w : World), wpOpsIn F n P ops Q order a w → wpOpsIn (F.inRound l) n P ops Q order a w := by
  intro order
  induction order with
  | nil => exact fun _ _ h => h
  | cons i rest ih =>
    intro a w h
    unfold wpOpsIn at h ⊢
    cases ho : ops[i]? with
    | none => rw [ho] at h; exact ih a w h
    | some o =>
      rw [ho] at h
      by_cases hw : Region.wanted o (yielded ops a.tmps) = true
      · simp only [hw, if_true] at h ⊢
        refine ⟨h.1, ?_⟩
        have h2 := h.2
        rw [hro, Oper.semAt_none] at h2
        rw [show (F.inRound l).round = some l from rfl, Oper.semAt_some l _ _ (fun c => hnd i o c ho)]
        exact upon_round ih _ h2
      · simp only [hw] at h ⊢
        exact ⟨h.1, ih _ _ h.2⟩

/-- Is no operation one that defers? -/
def noDefer (ops : Array Oper) : Bool := ops.all fun o => match o.op with | .defer _ => false | _ => true
theorem noDefer_spec {ops : Array Oper} (h : noDefer ops = true) : ∀ (j : Nat) (o : Oper) (c : Call), ops[j]? = some o → o.op ≠ .defer c := by
  intro j o c hj e
  unfold noDefer at h
  rw [Array.all_eq_true] at h
  obtain ⟨hlt, hx⟩ := Array.getElem?_eq_some_iff.1 hj
  have := h j hlt
  rw [hx, e] at this
  simp at this

/-- Within a round: from the walk over all orders outside of it. -/
theorem wpIn_region_round {F : Fence} {n l id : Nat} {P : Program} {ops : Array Oper} {Q : Exit → Act → World → Prop} {a : Act} {w : World} (hro : F.round = none) (hnd : noDefer ops = true) (hm : P.follows .mixedOrders = true)
    (h : wpAnyIn F n P .any ops Q ops.size (Array.replicate ops.size false) a w.drew) : (Code.region id ops true).wpIn (F.inRound l) n P Q a w :=
  wpIn_region_draw fun t => by
    simp only [Region.schedule, hm, Bool.true_or, if_true]
    exact ops_round hro (noDefer_spec hnd) _ _ _ (wpAnyIn_sound ops.size t _ a _ h)

end Go.Proofs.Ytgeknojpcjadkaa
