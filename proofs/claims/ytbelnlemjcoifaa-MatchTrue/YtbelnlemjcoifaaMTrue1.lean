/-
  PLAIN MATHEMATICS of fitting: by what fits the one becomes the other; what was made of it fits.
-/
import Derived.Test.YtbelnlemjcoifaaSubM
namespace Go.Proofs.Ytbelnlemjcoifaa
open Go.Proofs Go.RowKit Go.Shelf

/-- What a sign becomes by what was found. -/
def Tm.found (m : Asg) (s : Int) : List Int := if s < 0 then (m s).getD [s] else [s]
theorem Tm.piece_fitL {m : Asg} {s : Int} (h8 : -8 ≤ s) : Tm.piece (Tm.fitL m 8) s = Tm.found m s := by
  unfold Tm.piece Tm.found
  by_cases hs : s < 0
  · rw [if_pos hs, if_pos hs]
    have hj : (-1 - s).toNat < 8 := by omega
    simp only [Tm.fitL, List.getElem?_map]
    rw [List.getElem?_range hj]
    simp only [Option.map_some, Option.getD_some]
    rw [if_pos hj, show -1 - (((-1 - s).toNat : Nat) : Int) = s from by omega]
  · rw [if_neg hs, if_neg hs]
theorem Tm.applied_fitL {m : Asg} : ∀ (p : List Int), p.all Tm.known = true → Tm.applied (Tm.fitL m 8) p = p.flatMap (Tm.found m) := by
  intro p
  induction p with
  | nil => intro _; rfl
  | cons s l ih =>
    intro hk
    rw [List.all_cons, Bool.and_eq_true] at hk
    rw [Tm.applied_cons, ih hk.2, Tm.piece_fitL (Tm.known_ge hk.1), List.flatMap_cons]
theorem Tm.part_drop (t : List Int) (k : Nat) : Tm.part t k ++ t.drop (Tm.endAt t k) = t.drop k := by
  have h := Tm.endAt_gt t k
  unfold Tm.part
  rw [show t.drop (Tm.endAt t k) = (t.drop k).drop (Tm.endAt t k - k) from by rw [List.drop_drop]; congr 1; omega, List.take_append_drop]

theorem Tm.fit_sound (p t : List Int) : ∀ (n i k : Nat) (m m' : Asg), p.length - i = n → i ≤ p.length → Against p t i k → Tm.fitGo t (p.drop i) k m = some m' →
    (∀ x z, m x = some z → m' x = some z) ∧ (p.drop i).flatMap (Tm.found m') = t.drop k := by
  intro n
  induction n with
  | zero =>
    intro i k m m' hn hi ha h
    obtain rfl : i = p.length := by omega
    rw [List.drop_length, Tm.fitGo_nil] at h
    cases h
    rw [List.drop_length, ha.fin, List.drop_length]
    exact ⟨fun _ _ h => h, rfl⟩
  | succ n ih =>
    intro i k m m' hn hi ha h
    have hlt : i < p.length := by omega
    have hk := ha.pos hlt
    rw [List.drop_eq_getElem_cons hlt, Tm.fitGo] at h
    rw [List.drop_eq_getElem_cons hlt, List.flatMap_cons]
    by_cases hs : p[i] < 0
    · rw [if_pos hs] at h
      by_cases hc : (m p[i]).isSome = true ∧ m p[i] ≠ some (Tm.part t k)
      · rw [if_pos hc] at h; cases h
      · rw [if_neg hc] at h
        obtain ⟨h1, h2⟩ := ih (i + 1) (Tm.endAt t k) _ m' (by omega) (by omega) (ha.var hlt (by simpa [hlt] using hs)) h
        have hp := h1 p[i] (Tm.part t k) (upd_same _ _ _)
        refine ⟨fun x z hx => ?_, ?_⟩
        · by_cases e : x = p[i]
          · subst e
            have : m p[i] = some (Tm.part t k) := by
              by_cases hq : m p[i] = some (Tm.part t k)
              · exact hq
              · exact absurd ⟨by rw [hx]; rfl, hq⟩ hc
            rw [this] at hx
            cases hx
            exact hp
          · exact h1 x z (by rw [upd_other _ _ e]; exact hx)
        · rw [h2, show Tm.found m' p[i] = Tm.part t k from by unfold Tm.found; rw [if_pos hs, hp]; rfl, Tm.part_drop]
    · rw [if_neg hs] at h
      by_cases hu : t[k]?.getD 0 = p[i]
      · rw [if_pos hu] at h
        obtain ⟨h1, h2⟩ := ih (i + 1) (k + 1) m m' (by omega) (by omega) (ha.sym hlt (by simpa [hlt] using hu)) h
        refine ⟨h1, ?_⟩
        rw [h2, show Tm.found m' p[i] = [p[i]] from by unfold Tm.found; rw [if_neg hs], List.drop_eq_getElem_cons hk]
        simp [hk] at hu
        rw [hu]; rfl
      · rw [if_neg hu] at h; cases h
/-- By what fits the one becomes the other. -/
theorem Tm.fit_makes {p t : List Int} {m : Asg} (hp : Tm.err p = 0) (ht : Tm.err t = 0) (h : Tm.fit p t = some m) : Tm.applied (Tm.fitL m 8) p = t := by
  rw [Tm.applied_fitL p (Tm.err_all hp)]
  have := (Tm.fit_sound p t _ 0 0 _ m rfl (by omega) (Against.start hp ht) (by simpa [Tm.fit] using h)).2
  simpa using this

theorem Tm.applied_split (ss : List (List Int)) (p : List Int) (i : Nat) : Tm.applied ss p = Tm.applied ss (p.take i) ++ Tm.applied ss (p.drop i) := by
  unfold Tm.applied
  rw [← List.flatMap_append, List.take_append_drop]
theorem Tm.endAt_front {pre x post : List Int} (hx : Tm.run x 1 = x.length) : Tm.endAt (pre ++ (x ++ post)) pre.length = pre.length + x.length := by
  have h := Tm.endAt_mid (pre := pre) (t := x) (post := post) (k := 0) (by omega) (by rw [Tm.endAt_zero]; omega)
  rw [Nat.add_zero, Tm.endAt_zero, hx] at h
  exact h
theorem Tm.part_front {pre x post : List Int} (hx : Tm.run x 1 = x.length) : Tm.part (pre ++ (x ++ post)) pre.length = x := by
  unfold Tm.part
  rw [Tm.endAt_front hx, List.drop_left, show pre.length + x.length - pre.length = x.length from by omega, List.take_left]
/-- What was made of it fits, by what made it. -/
theorem Tm.fit_made (p : List Int) (ss : List (List Int)) (hss : Terms ss) (hp : p.all Tm.known = true) : ∀ (n i : Nat) (m : Asg), p.length - i = n → i ≤ p.length → (∀ x z, m x = some z → z = Tm.piece ss x) →
    ∃ m', Tm.fitGo (Tm.applied ss p) (p.drop i) (Tm.applied ss (p.take i)).length m = some m' ∧ (∀ x z, m x = some z → m' x = some z) ∧ ∀ j, i ≤ j → j < p.length → p[j]?.getD 0 < 0 → m' (p[j]?.getD 0) = some (Tm.piece ss (p[j]?.getD 0)) := by
  intro n
  induction n with
  | zero =>
    intro i m hn hi hm
    obtain rfl : i = p.length := by omega
    rw [List.drop_length]
    exact ⟨m, rfl, fun _ _ h => h, fun j h1 h2 => by omega⟩
  | succ n ih =>
    intro i m hn hi hm
    have hlt : i < p.length := by omega
    have hkn : Tm.known p[i] = true := by rw [List.all_eq_true] at hp; exact hp _ (List.getElem_mem hlt)
    have hsp : Tm.applied ss p = Tm.applied ss (p.take i) ++ (Tm.piece ss p[i] ++ Tm.applied ss (p.drop (i + 1))) := by
      rw [Tm.applied_split ss p i, List.drop_eq_getElem_cons hlt, Tm.applied_cons]
    have htk : (Tm.applied ss (p.take (i + 1))).length = (Tm.applied ss (p.take i)).length + (Tm.piece ss p[i]).length := by
      rw [Tm.applied_snoc ss hlt, List.length_append]; simp [hlt]
    rw [List.drop_eq_getElem_cons hlt, Tm.fitGo]
    by_cases hs : p[i] < 0
    · have hr := Tm.err_run (Tm.piece_term hss (Tm.known_ge hkn) hs)
      rw [if_pos hs]
      have e1 : Tm.part (Tm.applied ss p) (Tm.applied ss (p.take i)).length = Tm.piece ss p[i] := by rw [hsp]; exact Tm.part_front hr
      have e2 : Tm.endAt (Tm.applied ss p) (Tm.applied ss (p.take i)).length = (Tm.applied ss (p.take (i + 1))).length := by rw [hsp, Tm.endAt_front hr, htk]
      rw [e1, e2, if_neg (by
        rintro ⟨h1, h2⟩
        obtain ⟨z, hz⟩ := Option.isSome_iff_exists.1 h1
        rw [hz, hm _ z hz] at h2
        exact h2 rfl)]
      obtain ⟨m', h1, h2, h3⟩ := ih (i + 1) (upd m p[i] (Tm.piece ss p[i])) (by omega) (by omega) (fun x z hx => by
        by_cases e : x = p[i]
        · subst e; rw [upd_same] at hx; cases hx; rfl
        · rw [upd_other _ _ e] at hx; exact hm x z hx)
      refine ⟨m', h1, fun x z hx => ?_, fun j hj1 hj2 hj3 => ?_⟩
      · by_cases e : x = p[i]
        · subst e; rw [h2 _ _ (upd_same _ _ _), hm _ z hx]
        · exact h2 x z (by rw [upd_other _ _ e]; exact hx)
      · by_cases e : j = i
        · subst e
          rw [show p[j]?.getD 0 = p[j] from by simp [hlt]]
          exact h2 _ _ (upd_same _ _ _)
        · exact h3 j (by omega) hj2 hj3
    · rw [if_neg hs]
      have hpc : Tm.piece ss p[i] = [p[i]] := Tm.piece_pos (by omega)
      have e1 : (Tm.applied ss p)[(Tm.applied ss (p.take i)).length]?.getD 0 = p[i] := by rw [hsp, hpc]; simp
      rw [if_pos e1]
      rw [hpc] at htk
      obtain ⟨m', h1, h2, h3⟩ := ih (i + 1) m (by omega) (by omega) hm
      rw [htk] at h1
      refine ⟨m', h1, h2, fun j hj1 hj2 hj3 => ?_⟩
      by_cases e : j = i
      · subst e
        rw [show p[j]?.getD 0 = p[j] from by simp [hlt]] at hj3
        exact absurd hj3 hs
      · exact h3 j (by omega) hj2 hj3

theorem Tm.subErr_none : Tm.subErr (Tm.noneL 8) = 0 := by decide +kernel
/-- Each term fits itself. -/
theorem Tm.fit_self {p : List Int} (hp : Tm.err p = 0) : Tm.fitErr p p = 0 ∧ Tm.fitIs p p = true := by
  obtain ⟨m', h1, _⟩ := Tm.fit_made p (Tm.noneL 8) (Terms.of Tm.subErr_none) (Tm.err_all hp) _ 0 (fun _ => none) rfl (by omega) (fun x z h => by cases h)
  rw [Tm.applied_none p (Tm.err_all hp)] at h1
  have he := Tm.fitErr_of hp hp
  exact ⟨he, (Tm.fit_yes he (by simpa [Tm.fit, Tm.applied] using h1)).1⟩
/-- What was made of it by any list fits. -/
theorem Tm.fit_of_made {p : List Int} {ss : List (List Int)} (hp : Tm.err p = 0) (hs : Tm.subErr ss = 0) (hl : (Tm.applied ss p).length ≤ 30) :
    Tm.fitErr p (Tm.applied ss p) = 0 ∧ Tm.fitIs p (Tm.applied ss p) = true ∧ (Tm.fitVal p (Tm.applied ss p)).length = 8 ∧ ∀ k, k < p.length → p[k]?.getD 0 < 0 → (Tm.fitVal p (Tm.applied ss p))[(-(p[k]?.getD 0) - 1).toNat]?.getD [] = ss[(-(p[k]?.getD 0) - 1).toNat]?.getD [] := by
  obtain ⟨m', h1, _, h3⟩ := Tm.fit_made p ss (Terms.of hs) (Tm.err_all hp) _ 0 (fun _ => none) rfl (by omega) (fun x z h => by cases h)
  have he := Tm.fitErr_of hp (Tm.err_applied (Terms.of hs) hp hl)
  obtain ⟨e1, e2⟩ := Tm.fit_yes he (m := m') (by simpa [Tm.fit, Tm.applied] using h1)
  refine ⟨he, e1, by rw [e2, Tm.fitL_length], fun k hk hneg => ?_⟩
  have hkn := Tm.known_ge (Tm.all_at (Tm.err_all hp) hk)
  have hm := h3 k (by omega) hk hneg
  generalize p[k]?.getD 0 = s at *
  have hpc := Tm.piece_fitL (m := m') hkn
  unfold Tm.found at hpc
  rw [if_pos hneg, hm, Option.getD_some] at hpc
  rw [e2]
  unfold Tm.piece at hpc
  rw [if_pos hneg, if_pos hneg] at hpc
  rw [show -s - 1 = -1 - s from by omega]
  exact hpc

end Go.Proofs.Ytbelnlemjcoifaa
