/-
  PLAIN MATHEMATICS of what variables become: first by one list, then by another, is by After of both.
-/
import Derived.Test.YtbelnlemjcoifaaMBegun
import Derived.Test.YtbelnlemjcoifaaRow2
namespace Go.Proofs.Ytbelnlemjcoifaa
open Go.Proofs Go.RowKit Go.Shelf

theorem Tm.applied_cons (ss : List (List Int)) (s : Int) (l : List Int) : Tm.applied ss (s :: l) = Tm.piece ss s ++ Tm.applied ss l := by simp [Tm.applied]
theorem Tm.piece_pos {ss : List (List Int)} {s : Int} (h : 0 ≤ s) : Tm.piece ss s = [s] := by unfold Tm.piece; rw [if_neg (by omega)]

/-- Each list is a term. -/
def Terms (ss : List (List Int)) : Prop := ∀ j, j < 8 → Tm.err (ss[j]?.getD []) = 0
theorem Terms.of {ss : List (List Int)} (h : Tm.subErr ss = 0) : Terms ss := fun j hj => Tm.firstErr_all (Tm.subErr_ok h).2 j (by rw [(Tm.subErr_ok h).1]; exact hj)
theorem Tm.piece_term {ss : List (List Int)} (h : Terms ss) {s : Int} (h8 : -8 ≤ s) (hs : s < 0) : Tm.err (Tm.piece ss s) = 0 := by
  unfold Tm.piece
  rw [if_pos hs]
  exact h _ (by omega)

theorem Tm.run_applied {ss : List (List Int)} (h : Terms ss) : ∀ (t : List Int) (n : Nat), t.all Tm.known = true → Tm.run t n = t.length → Tm.run (Tm.applied ss t) n = (Tm.applied ss t).length := by
  intro t
  induction t with
  | nil => intro n _ hr; rw [Tm.run_nil] at hr; subst hr; rw [List.length_nil, Tm.run_zero]; rfl
  | cons s l ih =>
    intro n hk hr
    rw [List.all_cons, Bool.and_eq_true] at hk
    cases n with
    | zero => rw [Tm.run_zero, List.length_cons] at hr; omega
    | succ n =>
      rw [Tm.run_cons, List.length_cons] at hr
      rw [Tm.applied_cons]
      by_cases hs : s < 0
      · rw [Tm.room_neg hs] at hr
        have hp := Tm.err_run (Tm.piece_term h (Tm.known_ge hk.1) hs)
        have hi := ih n hk.2 (by rw [Nat.add_zero] at hr; omega)
        rw [show n + 1 = 1 + n from by omega, Tm.run_add, Tm.run_app _ _ 1 (by omega), hp, List.drop_left, hi, List.length_append]
      · rw [Tm.piece_pos (by omega), List.singleton_append, Tm.run_cons, List.length_cons, ih _ hk.2 (by omega)]
        omega
theorem Tm.all_applied {ss : List (List Int)} (h : Terms ss) : ∀ (t : List Int), t.all Tm.known = true → (Tm.applied ss t).all Tm.known = true := by
  intro t
  induction t with
  | nil => intro _; rfl
  | cons s l ih =>
    intro hk
    rw [List.all_cons, Bool.and_eq_true] at hk
    rw [Tm.applied_cons, List.all_append, ih hk.2]
    by_cases hs : s < 0
    · rw [Tm.err_all (Tm.piece_term h (Tm.known_ge hk.1) hs)]; rfl
    · rw [Tm.piece_pos (by omega)]; simp [hk.1]
/-- What a term becomes is a term. -/
theorem Tm.err_applied {ss : List (List Int)} (h : Terms ss) {t : List Int} (ht : Tm.err t = 0) (hl : (Tm.applied ss t).length ≤ 30) : Tm.err (Tm.applied ss t) = 0 :=
  Tm.err_ok hl (Tm.all_applied h t (Tm.err_all ht)) (Tm.run_applied h t 1 (Tm.err_all ht) (Tm.err_run ht))

/-- First by one list, then by another, is by After of both. -/
theorem Tm.applied_after {ss us : List (List Int)} (hl : ss.length = 8) : ∀ (t : List Int), t.all Tm.known = true → Tm.applied us (Tm.applied ss t) = Tm.applied (Tm.afterL ss us) t := by
  intro t
  induction t with
  | nil => intro _; rfl
  | cons s l ih =>
    intro hk
    rw [List.all_cons, Bool.and_eq_true] at hk
    rw [Tm.applied_cons, Tm.applied_cons, ← ih hk.2]
    have e : Tm.applied us (Tm.piece ss s ++ Tm.applied ss l) = Tm.applied us (Tm.piece ss s) ++ Tm.applied us (Tm.applied ss l) := by simp [Tm.applied]
    rw [e]
    congr 1
    by_cases hs : s < 0
    · have h8 := Tm.known_ge hk.1
      unfold Tm.piece
      rw [if_pos hs, if_pos hs]
      have hj : (-1 - s).toNat < ss.length := by omega
      simp [Tm.afterL, hj]
    · rw [Tm.piece_pos (by omega), Tm.piece_pos (by omega)]
      simp [Tm.applied, Tm.piece_pos (show 0 ≤ s by omega)]
/-- By None nothing changes. -/
theorem Tm.applied_none : ∀ (t : List Int), t.all Tm.known = true → Tm.applied (Tm.noneL 8) t = t := by
  intro t
  induction t with
  | nil => intro _; rfl
  | cons s l ih =>
    intro hk
    rw [List.all_cons, Bool.and_eq_true] at hk
    rw [Tm.applied_cons, ih hk.2]
    have h8 := Tm.known_ge hk.1
    by_cases hs : s < 0
    · have hp : Tm.piece (Tm.noneL 8) s = [s] := by
        unfold Tm.piece
        rw [if_pos hs]
        have hj : (-1 - s).toNat < 8 := by omega
        simp only [Tm.noneL, List.getElem?_map]
        rw [List.getElem?_range hj]
        simp
        omega
      rw [hp]; rfl
    · rw [Tm.piece_pos (by omega)]; rfl
theorem Tm.subErr_after {ss us : List (List Int)} (hs : Tm.subErr ss = 0) (hu : Tm.subErr us = 0) (hf : ss.all (Tm.fits us) = true) : Tm.subErr (Tm.afterL ss us) = 0 := by
  have hl : (Tm.afterL ss us).length = 8 := by rw [Tm.afterL_length, (Tm.subErr_ok hs).1]
  unfold Tm.subErr
  rw [if_pos hl]
  have hall : ∀ t ∈ Tm.afterL ss us, Tm.err t = 0 := by
    intro t ht
    unfold Tm.afterL at ht
    rw [List.mem_map] at ht
    obtain ⟨x, hx, rfl⟩ := ht
    rw [List.all_eq_true] at hf
    have h1 := hf x hx
    simp only [Tm.fits, decide_eq_true_eq] at h1
    obtain ⟨k, hk, e⟩ := List.getElem_of_mem hx
    have h2 := Tm.firstErr_all (Tm.subErr_ok hs).2 k hk
    simp only [hk, List.getElem?_eq_getElem, Option.getD_some, e] at h2
    exact Tm.err_applied (Terms.of hu) h2 h1
  generalize Tm.afterL ss us = l at hall
  clear hl hf hs hu
  induction l with
  | nil => rfl
  | cons t l ih =>
    unfold Tm.firstErr
    rw [if_pos (hall t (by simp))]
    exact ih (fun x hx => hall x (by simp [hx]))

end Go.Proofs.Ytbelnlemjcoifaa
