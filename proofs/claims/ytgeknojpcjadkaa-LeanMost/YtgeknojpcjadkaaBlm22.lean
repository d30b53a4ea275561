/-
  Parts of the proof: RRef5, Lea16.
-/
import Derived.Deep.QuietTactic
import Derived.BigQuiet
import Derived.Test.YtgeknojpcjadkaaBlm16
import Derived.Test.YtgeknojpcjadkaaBlm21
namespace Go.Proofs.Ytgeknojpcjadkaa
open Go.Proofs Go.RowKit Go.Shelf Go.Maps
def StepsAt (n : Nat) (W : World) (v : Value) (sts : StepL) : Prop := ∃ a c, v = .slice a sts.length c ∧ ∀ j, j < sts.length → ∃ g, a = some ⟨g, 0, none⟩ ∧ g < n ∧ ∃ ad c', W.cell? ⟨g, j * 3, none⟩ = some (.int .i64 ((sts[j]?.getD (0, 0, [])).1 : Int)) ∧ W.cell? ⟨g, j * 3 + 1, none⟩ = some (.int .i64 ((sts[j]?.getD (0, 0, [])).2.1 : Int)) ∧
    W.cell? ⟨g, j * 3 + 2, none⟩ = some (.slice ad (sts[j]?.getD (0, 0, [])).2.2.length c') ∧ Ints n W ad (sts[j]?.getD (0, 0, [])).2.2 ∧ (sts[j]?.getD (0, 0, [])).2.2.length ≤ c' ∧ c' ≤ maxLen
theorem NewT.steps {base : Nat} {W : World} {v : Value} {sts : StepL} (h : NewT base W v sts) : StepsAt W.heap.size W v sts := by
  obtain ⟨a, c, rfl⟩ := h.slice
  refine ⟨a, c, rfl, fun j hj => ?_⟩
  obtain ⟨g, cap, e, hat⟩ := h.at (by omega)
  cases e
  obtain ⟨ad, c', c0, c1, c2, i, q⟩ := hat j hj
  exact ⟨g, rfl, by simpa using lt_of_cell c0, ad, c', c0, c1, c2, i, q⟩
theorem StepsAt.below {n : Nat} {A B : World} (h : Below n A B) {v : Value} {sts : StepL} (hi : StepsAt n A v sts) : StepsAt n B v sts := by
  obtain ⟨a, c, rfl, hat⟩ := hi
  refine ⟨a, c, rfl, fun j hj => ?_⟩
  obtain ⟨g, e, hg, ad, c', c0, c1, c2, i, q⟩ := hat j hj
  exact ⟨g, e, hg, ad, c', (h.cell (p := ⟨g, j * 3, none⟩) hg).trans c0, (h.cell (p := ⟨g, j * 3 + 1, none⟩) hg).trans c1, (h.cell (p := ⟨g, j * 3 + 2, none⟩) hg).trans c2, i.below h, q⟩
theorem StepsAt.mono {n m : Nat} (hnm : n ≤ m) {A : World} {v : Value} {sts : StepL} (hi : StepsAt n A v sts) : StepsAt m A v sts := by
  obtain ⟨a, c, rfl, hat⟩ := hi
  refine ⟨a, c, rfl, fun j hj => ?_⟩
  obtain ⟨g, e, hg, ad, c', c0, c1, c2, i, q⟩ := hat j hj
  exact ⟨g, e, by omega, ad, c', c0, c1, c2, i.mono hnm, q⟩
end Go.Proofs.Ytgeknojpcjadkaa
namespace Go.Proofs.Ytgeknojpcjadkaa
open Go.Proofs Go.RowKit Go.Shelf
def Tm.bth (ss vs : List (List Int)) : List (List Int) := (List.range 8).map fun i : Nat => if i < 4 then ss[i]?.getD [] else vs[i - 4]?.getD []
theorem Tm.bth_at (ss vs : List (List Int)) {i : Nat} (h : i < 8) : (Tm.bth ss vs)[i]?.getD [] = if i < 4 then ss[i]?.getD [] else vs[i - 4]?.getD [] := by
  unfold Tm.bth
  rw [List.getElem?_map, List.getElem?_range h]
  rfl
theorem Tm.bth_sub {ss vs : List (List Int)} (h : Tm.subErr ss = 0) (hv : Tm.subErr vs = 0) : Tm.subErr (Tm.bth ss vs) = 0 := by
  have hl : (Tm.bth ss vs).length = 8 := by simp [Tm.bth]
  unfold Tm.subErr
  rw [if_pos hl]
  refine Tm.firstErr_of fun k hk => ?_
  rw [hl] at hk
  rw [Tm.bth_at ss vs hk]
  by_cases h4 : k < 4
  · rw [if_pos h4]
    exact Terms.of h k hk
  · rw [if_neg h4]
    exact Terms.of hv (k - 4) (by omega)
theorem Tm.applied_bth {ss vs : List (List Int)} : ∀ {t : List Int}, (∀ s ∈ t, -4 ≤ s) → Tm.applied (Tm.bth ss vs) t = Tm.applied ss t
  | [], _ => rfl
  | s :: l, h => by
    rw [Tm.applied_cons, Tm.applied_cons, Tm.applied_bth fun q hq => h q (by simp [hq])]
    congr 1
    have h4 := h s (by simp)
    unfold Tm.piece
    by_cases hs : s < 0
    · rw [if_pos hs, if_pos hs, Tm.bth_at ss vs (show (-1 - s).toNat < 8 by omega), if_pos (by omega)]
    · rw [if_neg hs, if_neg hs]
theorem Tm.applied_bth_oth {ss vs : List (List Int)} : ∀ {L : List Int}, (∀ s ∈ L, -4 ≤ s) → Tm.applied (Tm.bth ss vs) (Tm.others L) = Tm.applied vs L
  | [], _ => rfl
  | s :: l, h => by
    show Tm.applied (Tm.bth ss vs) (Tm.oth s :: Tm.others l) = Tm.applied vs (s :: l)
    rw [Tm.applied_cons, Tm.applied_cons, Tm.applied_bth_oth fun q hq => h q (by simp [hq])]
    congr 1
    have h4 := h s (by simp)
    unfold Tm.piece Tm.oth
    by_cases hs : s < 0
    · rw [if_pos hs, if_pos hs, if_pos (by omega), Tm.bth_at ss vs (show (-1 - (s - 4)).toNat < 8 by omega), if_neg (by omega)]
      congr 2
      omega
    · rw [if_neg hs, if_neg hs, if_neg hs]
theorem Tm.lean_most {rs : RuleL} {t : List Int} {l : LeanL} (h : Tm.LeanSays rs t 0 l) {ss : List (List Int)} (hs : Tm.subErr ss = 0) (hlen : (Tm.applied ss t).length ≤ 30) (hst : Tm.stepErr rs (Tm.applied ss t) = 0)
    {k : Nat} (hk : k < t.length) (hk0 : ¬ t[k]?.getD 0 < 0) {s : Nat × Nat × List Int} (hm : s ∈ Tm.stepVal rs (Tm.applied ss t)) (hp : s.2.1 = (Tm.applied ss (t.take k)).length) : ∃ x ∈ l, x.2.1 = k ∧ x.1 = s.1 := by
  rcases h with ⟨h1, h2, _⟩ | ⟨h0, ⟨_, hat, _, hmem⟩ | ⟨⟨_, _, _, _, hb, _⟩, _⟩⟩
  · exact absurd h2.symm h1
  · obtain ⟨e1, e2, e3⟩ := Tm.leanErr_zero h0
    obtain ⟨_, hall⟩ := Tm.rulesErr_ok e1
    have hte := Terms.of hs
    have eU := Tm.err_applied hte e2 hlen
    obtain ⟨p1, p2, _⟩ := Tm.applied_at hte e2 hk
    unfold Tm.stepVal at hm
    rw [if_pos hst] at hm
    obtain ⟨_, hr, hb, _⟩ := Tm.allL_mem _ hm
    rw [hp] at hb
    obtain ⟨eL, eR, fL, fR, _⟩ := Tm.ruleErr_ok (hall _ hr)
    rw [Tm.hitB_fit eL eU p2, Option.isSome_iff_exists] at hb
    obtain ⟨m, hf⟩ := hb
    have ePu := Tm.part_err eU p2
    have hv := Tm.subErr_fitL eL ePu hf
    have hmk := Tm.fit_makes eL ePu hf
    have ePt := Tm.part_err e2 hk
    have hown : ∀ q ∈ Tm.part t k, -4 ≤ q := fun q hq => Tm.own_ge e3 q (by
      rw [Tm.split t k]
      exact List.mem_append_right _ (List.mem_append_left _ hq))
    have heq : Tm.applied (Tm.bth ss (Tm.fitL m 8)) (Tm.part t k) = Tm.applied (Tm.bth ss (Tm.fitL m 8)) (Tm.others (rs[s.1]?.getD ([], [])).1) := by
      rw [Tm.applied_bth hown, Tm.applied_bth_oth (Tm.own_ge fL), hmk, p1]
    obtain ⟨o, ho⟩ := hat _ hr k hk
    rcases id ho with ⟨c, _⟩ | ⟨_, ⟨val, c⟩, _⟩ | ⟨_, val, _, _, c⟩
    · exact absurd c hk0
    · rcases Tm.meet_most (Tm.bth_sub hs hv) ePt (Tm.oth_err eL fL) heq c with ⟨c1, _⟩ | ⟨_, c1, _⟩
      · omega
      · cases c1
    · exact ⟨_, (hmem _).2 ⟨s.1, k, o, hr, hk, ho, by rw [c]; exact List.mem_singleton.2 rfl⟩, rfl, rfl⟩
  · exact absurd rfl hb
def lmB (k r : Nat) (l : LeanL) (n : Nat) : Bool := (l.take n).any fun x => decide (x.2.1 = k) && decide (x.1 = r)
theorem lmB_zero (k r : Nat) (l : LeanL) : lmB k r l 0 = false := rfl
theorem lmB_succ {k r : Nat} {l : LeanL} {n : Nat} (h : n < l.length) : lmB k r l (n + 1) = (lmB k r l n || (decide (l[n].2.1 = k) && decide (l[n].1 = r))) := by
  unfold lmB
  rw [List.take_add_one, List.any_append, List.getElem?_eq_getElem h]
  simp
theorem lmB_all {k r : Nat} {l : LeanL} (h : ∃ x ∈ l, x.2.1 = k ∧ x.1 = r) : lmB k r l l.length = true := by
  obtain ⟨x, hx, e1, e2⟩ := h
  unfold lmB
  rw [List.take_length]
  refine List.any_eq_true.2 ⟨x, hx, ?_⟩
  rw [decide_eq_true e1, decide_eq_true e2]
  rfl
theorem Tm.applied_pre (ss : List (List Int)) (t : List Int) (k : Nat) : (Tm.applied ss (t.take k)).length ≤ (Tm.applied ss t).length := by
  conv => rhs; rw [← List.take_append_drop k t]
  unfold Tm.applied
  rw [List.flatMap_append, List.length_append]
  omega
theorem nat_beq (a b : Nat) : ((a : Int) == (b : Int)) = decide (a = b) := by
  by_cases h : a = b
  · subst h
    simp
  · rw [decide_eq_false h, beq_eq_false_iff_ne]
    omega
end Go.Proofs.Ytgeknojpcjadkaa
