/-
  PLAIN MATHEMATICS: what is put at a place is part of what comes there; put back it is the term it was.
-/
import Derived.Test.YtbelnlemjcoifaaPut2
namespace Go.Proofs.Ytbelnlemjcoifaa
open Go.Proofs Go.RowKit Go.Shelf

theorem Tm.run_app (l : List Int) : ∀ (r : List Int) (n : Nat), Tm.run l n ≤ l.length → Tm.run (l ++ r) n = Tm.run l n := by
  induction l with
  | nil => intro r n h; rw [Tm.run_nil] at h; have : n = 0 := by simpa using h
           subst this; simp [Tm.run_zero]
  | cons s l ih =>
    intro r n h
    cases n with
    | zero => simp [Tm.run_zero]
    | succ n =>
      rw [List.cons_append, Tm.run_cons, Tm.run_cons, ih]
      rw [Tm.run_cons, List.length_cons] at h
      omega
theorem Tm.run_take (l : List Int) : ∀ (n : Nat), Tm.run l n ≤ l.length → Tm.run (l.take (Tm.run l n)) n = Tm.run l n := by
  induction l with
  | nil => intro n h; simp [Tm.run_nil]
  | cons s l ih =>
    intro n h
    cases n with
    | zero => simp [Tm.run_zero]
    | succ n =>
      rw [Tm.run_cons] at h ⊢
      rw [List.length_cons] at h
      rw [show 1 + Tm.run l (n + Tm.room s) = Tm.run l (n + Tm.room s) + 1 from by omega, List.take_succ_cons, Tm.run_cons, ih _ (by omega)]
      omega
theorem Tm.run_open (l : List Int) : ∀ (r : List Int) (n : Nat), l.length < Tm.run (l ++ r) n → ∃ m, ∀ x, Tm.run (l ++ x) n = l.length + Tm.run x (m + 1) := by
  induction l with
  | nil =>
    intro r n h
    cases n with
    | zero => simp [Tm.run_zero] at h
    | succ n => exact ⟨n, fun x => by simp⟩
  | cons s l ih =>
    intro r n h
    cases n with
    | zero => simp [Tm.run_zero] at h
    | succ n =>
      rw [List.cons_append, Tm.run_cons, List.length_cons] at h
      obtain ⟨m, hm⟩ := ih r (n + Tm.room s) (by omega)
      refine ⟨m, fun x => ?_⟩
      rw [List.cons_append, Tm.run_cons, hm, List.length_cons]
      omega

theorem Tm.split (zs : List Int) (k : Nat) : zs = zs.take k ++ (Tm.part zs k ++ zs.drop (Tm.endAt zs k)) := by
  have hg := Tm.endAt_gt zs k
  have hd : zs.drop (Tm.endAt zs k) = (zs.drop k).drop (Tm.endAt zs k - k) := by rw [List.drop_drop]; congr 1; omega
  rw [hd, Tm.part, List.take_append_drop, List.take_append_drop]

theorem Tm.part_run {zs : List Int} (he : Tm.err zs = 0) {k : Nat} (hk : k < zs.length) : Tm.run (Tm.part zs k) 1 = (Tm.part zs k).length := by
  rw [Tm.part_length he hk]
  have h1 := Tm.end_in he hk
  have h2 : Tm.endAt zs k - k = Tm.run (zs.drop k) 1 := by unfold Tm.endAt; omega
  unfold Tm.part
  rw [h2, Tm.run_take]
  rw [List.length_drop]
  omega
theorem Tm.part_all {zs : List Int} (he : Tm.err zs = 0) (k : Nat) : (Tm.part zs k).all Tm.known = true := by
  have h := Tm.err_all he
  rw [List.all_eq_true] at h ⊢
  intro x hx
  exact h x (List.mem_of_mem_drop (List.mem_of_mem_take hx))
/-- Each part is a term. -/
theorem Tm.part_err {zs : List Int} (he : Tm.err zs = 0) {k : Nat} (hk : k < zs.length) : Tm.err (Tm.part zs k) = 0 := by
  refine Tm.err_ok ?_ (Tm.part_all he k) (Tm.part_run he hk)
  rw [Tm.part_length he hk]
  have := Tm.end_in he hk
  have := Tm.err_len he
  omega

theorem Tm.put_eq (zs us : List Int) (k : Nat) : Tm.put zs k us = zs.take k ++ (us ++ zs.drop (Tm.endAt zs k)) := by unfold Tm.put; rw [List.append_assoc]

theorem Tm.put_run {zs us : List Int} (he : Tm.err zs = 0) (hu : Tm.run us 1 = us.length) {k : Nat} (hk : k < zs.length) : Tm.run (Tm.put zs k us) 1 = (Tm.put zs k us).length := by
  have hs := Tm.split zs k
  have hr := Tm.err_run he
  have hp := Tm.part_run he hk
  have htl : (zs.take k).length = k := by rw [List.length_take]; omega
  generalize hP : Tm.part zs k = P at *
  rw [Tm.put_eq]
  generalize hA : zs.take k = A at *
  generalize hB : zs.drop (Tm.endAt zs k) = B at *
  clear hP hA hB
  rw [hs] at hr
  obtain ⟨m, hm⟩ := Tm.run_open A (P ++ B) 1 (by rw [hr]; rw [← hs]; omega)
  rw [hm, show m + 1 = 1 + m from by omega, Tm.run_add, Tm.run_app P B 1 (by omega), hp, List.drop_left] at hr
  rw [hm, show m + 1 = 1 + m from by omega, Tm.run_add, Tm.run_app us B 1 (by omega), hu, List.drop_left]
  simp only [List.length_append] at hr ⊢
  omega
theorem Tm.put_all {zs us : List Int} (he : Tm.err zs = 0) (hu : us.all Tm.known = true) (k : Nat) : (Tm.put zs k us).all Tm.known = true := by
  have h := Tm.err_all he
  rw [List.all_eq_true] at h hu ⊢
  intro x hx
  unfold Tm.put at hx
  rw [List.mem_append, List.mem_append] at hx
  rcases hx with (hx | hx) | hx
  · exact h x (List.mem_of_mem_take hx)
  · exact hu x hx
  · exact h x (List.mem_of_mem_drop hx)
/-- What comes is a term. -/
theorem Tm.put_err {zs us : List Int} (he : Tm.err zs = 0) (hu : Tm.err us = 0) {k : Nat} (hk : k < zs.length) (hl : (Tm.put zs k us).length ≤ 30) : Tm.err (Tm.put zs k us) = 0 :=
  Tm.err_ok hl (Tm.put_all he (Tm.err_all hu) k) (Tm.put_run he (Tm.err_run hu) hk)
theorem Tm.put_take {zs us : List Int} {k : Nat} (hk : k < zs.length) : (Tm.put zs k us).take k = zs.take k := by
  have htl : (zs.take k).length = k := by rw [List.length_take]; omega
  rw [Tm.put_eq]
  exact List.take_left' htl
theorem Tm.put_drop {zs us : List Int} {k : Nat} (hk : k < zs.length) : (Tm.put zs k us).drop k = us ++ zs.drop (Tm.endAt zs k) := by
  have htl : (zs.take k).length = k := by rw [List.length_take]; omega
  rw [Tm.put_eq]
  exact List.drop_left' htl
theorem Tm.put_end {zs us : List Int} (hu : Tm.err us = 0) {k : Nat} (hk : k < zs.length) : Tm.endAt (Tm.put zs k us) k = k + us.length := by
  unfold Tm.endAt
  rw [Tm.put_drop hk, Tm.run_app us _ 1 (by rw [Tm.err_run hu]; exact Nat.le_refl _), Tm.err_run hu]
/-- What is put at a place is part of what comes, there. -/
theorem Tm.put_part {zs us : List Int} (hu : Tm.err us = 0) {k : Nat} (hk : k < zs.length) : Tm.part (Tm.put zs k us) k = us := by
  unfold Tm.part
  rw [Tm.put_end hu hk, Tm.put_drop hk, show k + us.length - k = us.length from by omega, List.take_left]
/-- What stood there put back, it is the term it was. -/
theorem Tm.put_back {zs us : List Int} (hu : Tm.err us = 0) {k : Nat} (hk : k < zs.length) : Tm.put (Tm.put zs k us) k (Tm.part zs k) = zs := by
  have h1 : (Tm.put zs k us).drop (k + us.length) = zs.drop (Tm.endAt zs k) := by
    rw [← List.drop_drop, Tm.put_drop hk, List.drop_left]
  rw [Tm.put_eq (Tm.put zs k us), Tm.put_end hu hk, h1, Tm.put_take hk]
  exact (Tm.split zs k).symm

end Go.Proofs.Ytbelnlemjcoifaa
