/-
  PLAIN MATHEMATICS: what is plain is a term, and is plain.
-/
import Derived.Test.YtbelnlemjcoifaaSub11
namespace Go.Proofs.Ytbelnlemjcoifaa
open Go.Proofs Go.RowKit Go.Shelf

theorem pigeon : ∀ (n : Nat) (l : List Int), l.Nodup → (∀ x ∈ l, -(n : Int) ≤ x ∧ x < 0) → l.length ≤ n := by
  intro n
  induction n with
  | zero =>
    intro l _ h
    cases l with
    | nil => simp
    | cons x l => have := h x (by simp); omega
  | succ n ih =>
    intro l hn h
    by_cases hm : -((n : Int) + 1) ∈ l
    · have h1 := ih (l.erase (-((n : Int) + 1))) (hn.erase _) (fun x hx => by
        have h2 := (hn.mem_erase_iff).1 hx
        have h3 := h x h2.2
        have h4 := h2.1
        omega)
      rw [List.length_erase_of_mem hm] at h1
      omega
    · have h1 := ih l hn (fun x hx => by
        have h3 := h x hx
        refine ⟨?_, h3.2⟩
        by_cases e : x = -((n : Int) + 1)
        · subst e; exact absurd hx hm
        · omega)
      omega

theorem Tm.see_neg {seen : List Int} (h : ∀ x ∈ seen, -8 ≤ x ∧ x < 0) {s : Int} (h8 : -8 ≤ s) : ∀ x ∈ Tm.see seen s, -8 ≤ x ∧ x < 0 := by
  unfold Tm.see
  by_cases hs : s < 0
  · rw [if_pos hs]
    split
    · exact h
    · intro x hx
      rw [List.mem_append] at hx
      rcases hx with hx | hx
      · exact h x hx
      · simp at hx; subst hx; exact ⟨h8, hs⟩
  · rw [if_neg hs]; exact h
theorem Tm.seen_neg : ∀ (t seen : List Int), t.all Tm.known = true → (∀ x ∈ seen, -8 ≤ x ∧ x < 0) → ∀ x ∈ Tm.seenFrom seen t, -8 ≤ x ∧ x < 0 := by
  intro t
  induction t with
  | nil => intro seen _ h; exact h
  | cons s l ih =>
    intro seen hk h
    rw [List.all_cons, Bool.and_eq_true] at hk
    exact ih _ hk.2 (Tm.see_neg h (Tm.known_ge hk.1))
theorem Tm.idx_lt {seen : List Int} {s : Int} (h : seen.contains s = true) : Tm.idx seen s < seen.length := by
  unfold Tm.idx
  rw [List.findIdx_lt_length]
  exact ⟨s, by simpa using h, by simp⟩
theorem Tm.all_take {t : List Int} (h : t.all Tm.known = true) (k : Nat) : (t.take k).all Tm.known = true := by
  rw [List.all_eq_true] at h ⊢
  exact fun x hx => h x (List.mem_of_mem_take hx)
theorem Tm.name_known {t : List Int} (ha : t.all Tm.known = true) {k : Nat} (hk : k < t.length) : Tm.known (Tm.name (Tm.seenFrom [] (t.take k)) (t[k]?.getD 0)) = true := by
  have hkn := Tm.all_at ha hk
  have h8 := Tm.known_ge hkn
  have hnd := Tm.seen_nodup (t.take k) [] List.nodup_nil
  have hng := Tm.seen_neg (t.take k) [] (Tm.all_take ha k) (fun x hx => by simp at hx)
  generalize t[k]?.getD 0 = s at *
  generalize Tm.seenFrom [] (t.take k) = seen at *
  unfold Tm.name
  by_cases hs : s < 0
  · rw [if_pos hs]
    have hp := pigeon 8 (Tm.see seen s) (Tm.see_nodup hnd s) (Tm.see_neg hng h8)
    have hi : Tm.idx seen s ≤ 7 := by
      cases hc : seen.contains s with
      | true =>
        rw [Tm.see_old hc] at hp
        have := Tm.idx_lt hc
        omega
      | false =>
        rw [Tm.see_new hs hc, List.length_append] at hp
        rw [Tm.idx_new hc]
        simp at hp
        omega
    simp only [Tm.known, Bool.and_eq_true, decide_eq_true_eq]
    omega
  · rw [if_neg hs]; exact hkn
theorem Tm.plain_at {t : List Int} {k : Nat} (hk : k < t.length) : (Tm.plain t)[k]?.getD 0 = Tm.name (Tm.seenFrom [] (t.take k)) (t[k]?.getD 0) := by
  simp [Tm.plain, Tm.plainTo, hk]
theorem Tm.plain_all {t : List Int} (ha : t.all Tm.known = true) : (Tm.plain t).all Tm.known = true := by
  rw [List.all_eq_true]
  intro x hx
  obtain ⟨k, hk, e⟩ := List.getElem_of_mem hx
  rw [Tm.plain_length] at hk
  have h := Tm.name_known ha hk
  rw [← Tm.plain_at hk] at h
  rw [List.getElem?_eq_getElem (by rw [Tm.plain_length]; exact hk), e] at h
  exact h
theorem Tm.run_congr : ∀ (l l' : List Int) (n : Nat), l.map Tm.room = l'.map Tm.room → Tm.run l n = Tm.run l' n := by
  intro l
  induction l with
  | nil => intro l' n h; cases l' with
    | nil => rfl
    | cons s l' => simp at h
  | cons s l ih =>
    intro l' n h
    cases l' with
    | nil => simp at h
    | cons s' l' =>
      simp only [List.map_cons, List.cons.injEq] at h
      cases n with
      | zero => rw [Tm.run_zero, Tm.run_zero]
      | succ n => rw [Tm.run_cons, Tm.run_cons, h.1, ih l' _ h.2]
theorem Tm.room_name (seen : List Int) (s : Int) : Tm.room (Tm.name seen s) = Tm.room s := by
  unfold Tm.name
  by_cases hs : s < 0
  · rw [if_pos hs, Tm.room_neg (by omega), Tm.room_neg hs]
  · rw [if_neg hs]
theorem Tm.plain_run (t : List Int) (n : Nat) : Tm.run (Tm.plain t) n = Tm.run t n := by
  apply Tm.run_congr
  apply List.ext_getElem
  · simp [Tm.plain_length]
  · intro i h1 h2
    have hi : i < t.length := by simpa using h2
    have h := Tm.plain_at hi
    rw [List.getElem?_eq_getElem (by rw [Tm.plain_length]; exact hi), Option.getD_some] at h
    rw [List.getElem_map, List.getElem_map, h, Tm.room_name]
    simp [hi]
theorem Tm.plain_err {t : List Int} (h : Tm.err t = 0) : Tm.err (Tm.plain t) = 0 :=
  Tm.err_ok (by rw [Tm.plain_length]; exact Tm.err_len h) (Tm.plain_all (Tm.err_all h)) (by rw [Tm.plain_run, Tm.plain_length]; exact Tm.err_run h)

theorem Tm.canon_step (seen : List Int) (s : Int) : Tm.see (Tm.canon seen.length) (Tm.name seen s) = Tm.canon (Tm.see seen s).length ∧ Tm.name (Tm.canon seen.length) (Tm.name seen s) = Tm.name seen s := by
  by_cases hs : s < 0
  · have hn : Tm.name seen s = -1 - (Tm.idx seen s : Int) := by unfold Tm.name; rw [if_pos hs]
    have hlt : Tm.name seen s < 0 := by rw [hn]; omega
    have hname : Tm.name (Tm.canon seen.length) (Tm.name seen s) = Tm.name seen s := by
      rw [show Tm.name (Tm.canon seen.length) (Tm.name seen s) = -1 - (Tm.idx (Tm.canon seen.length) (Tm.name seen s) : Int) from by unfold Tm.name; rw [if_pos (by rw [if_pos hs]; omega)], hn, Tm.canon_idx _ _ (Tm.idx_le seen s)]
    refine ⟨?_, hname⟩
    cases hc : seen.contains s with
    | true =>
      rw [Tm.see_old hc, Tm.see_old]
      rw [hn, Tm.canon_has]
      simp [Tm.idx_lt hc]
    | false =>
      have hi := Tm.idx_new hc
      rw [hi] at hn
      rw [Tm.see_new hs hc, Tm.see_new hlt (by rw [hn, Tm.canon_has]; simp), List.length_append, hn, List.length_singleton, Tm.canon_succ]
  · have hn : Tm.name seen s = s := by unfold Tm.name; rw [if_neg hs]
    rw [hn, Tm.see_same (by omega), Tm.see_same (by omega)]
    refine ⟨rfl, ?_⟩
    unfold Tm.name
    rw [if_neg hs]
theorem Tm.plain_take {t : List Int} {k : Nat} (hk : k ≤ t.length) : (Tm.plain t).take k = Tm.plainTo [] t k := by
  unfold Tm.plain Tm.plainTo
  rw [← List.map_take, List.take_range, Nat.min_eq_left hk]
theorem Tm.seen_plain (t : List Int) : ∀ k, k ≤ t.length → Tm.seenFrom [] ((Tm.plain t).take k) = Tm.canon (Tm.seenFrom [] (t.take k)).length := by
  intro k
  induction k with
  | zero => intro _; simp [Tm.seenFrom, Tm.canon]
  | succ k ih =>
    intro hk
    rw [Tm.seen_succ [] (show k < (Tm.plain t).length by rw [Tm.plain_length]; omega), ih (by omega), Tm.plain_at (by omega), (Tm.canon_step _ _).1, ← Tm.seen_succ [] (by omega)]
/-- What is plain is plain. -/
theorem Tm.plain_plain (t : List Int) : Tm.plain (Tm.plain t) = Tm.plain t := by
  apply List.ext_getElem
  · rw [Tm.plain_length]
  · intro i h1 h2
    have hi : i < t.length := by rw [Tm.plain_length] at h2; exact h2
    have hp : i < (Tm.plain t).length := h2
    have h := Tm.plain_at hp
    rw [Tm.seen_plain t i (by omega), Tm.plain_at hi, (Tm.canon_step _ _).2, ← Tm.plain_at hi] at h
    rw [List.getElem?_eq_getElem h1, List.getElem?_eq_getElem h2] at h
    exact h

end Go.Proofs.Ytbelnlemjcoifaa
