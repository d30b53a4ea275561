/-
  Parts of the proof: Lea14, Rul6b, RRef5, Lea15.
-/
import Derived.Test.YtgeknojpcjadkaaBlt21
import Derived.Test.YtgeknojpcjadkaaBlt13
import Derived.Test.YtgeknojpcjadkaaBlt18
import Derived.Test.YtgeknojpcjadkaaBlt7
import Derived.Test.YtgeknojpcjadkaaBlt12
import Derived.Deep.QuietTactic
import Derived.BigQuiet
import Derived.Test.YtgeknojpcjadkaaBlt16
namespace Go.Proofs.Ytgeknojpcjadkaa
open Go.Proofs Go.RowKit Go.Shelf
def Tm.shv (val : List (List Int)) : List (List Int) := (List.range 8).map fun i : Nat => if i < 4 then val[i + 4]?.getD [] else [-1 - (i : Int)]
theorem Tm.shv_at (val : List (List Int)) {i : Nat} (h : i < 8) : (Tm.shv val)[i]?.getD [] = if i < 4 then val[i + 4]?.getD [] else [-1 - (i : Int)] := by
  unfold Tm.shv
  rw [List.getElem?_map, List.getElem?_range h]
  rfl
theorem Tm.shv_len (val : List (List Int)) : (Tm.shv val).length = 8 := by simp [Tm.shv]
theorem Tm.shv_sub {val : List (List Int)} (h : Tm.subErr val = 0) : Tm.subErr (Tm.shv val) = 0 := by
  obtain ⟨h8, hf⟩ := Tm.subErr_ok h
  unfold Tm.subErr
  rw [if_pos (Tm.shv_len val)]
  refine Tm.firstErr_of fun k hk => ?_
  rw [Tm.shv_len] at hk
  rw [Tm.shv_at val hk]
  by_cases h4 : k < 4
  · rw [if_pos h4]
    exact Tm.firstErr_all hf (k + 4) (by omega)
  · rw [if_neg h4]
    exact Tm.err_var k hk
theorem Tm.piece_shv {val : List (List Int)} {s : Int} (h4 : -4 ≤ s) : Tm.piece (Tm.shv val) s = Tm.piece val (Tm.oth s) := by
  unfold Tm.piece Tm.oth
  by_cases hs : s < 0
  · rw [if_pos hs, if_pos hs, if_pos (by omega)]
    rw [Tm.shv_at val (show (-1 - s).toNat < 8 by omega), if_pos (by omega)]
    congr 2
    omega
  · rw [if_neg hs, if_neg hs, if_neg hs]
theorem Tm.applied_shv {val : List (List Int)} : ∀ {L : List Int}, (∀ s ∈ L, -4 ≤ s) → Tm.applied (Tm.shv val) L = Tm.applied val (Tm.others L)
  | [], _ => rfl
  | s :: l, h => by
    show Tm.applied (Tm.shv val) (s :: l) = Tm.applied val (Tm.oth s :: Tm.others l)
    rw [Tm.applied_cons, Tm.applied_cons, Tm.piece_shv (h s (by simp)), Tm.applied_shv fun q hq => h q (by simp [hq])]
theorem Tm.own_ge {t : List Int} (h : t.any foreignB = false) : ∀ s ∈ t, -4 ≤ s := fun s hs => by
  have := List.any_eq_false.1 h s hs
  simp only [foreignB, decide_eq_true_eq] at this
  omega
theorem Tm.applied_at {ss : List (List Int)} (h : Terms ss) {t : List Int} (et : Tm.err t = 0) {i : Nat} (hi : i < t.length) :
    Tm.part (Tm.applied ss t) (Tm.applied ss (t.take i)).length = Tm.applied ss (Tm.part t i) ∧ (Tm.applied ss (t.take i)).length < (Tm.applied ss t).length ∧
    ∀ X, Tm.put (Tm.applied ss t) (Tm.applied ss (t.take i)).length (Tm.applied ss X) = Tm.applied ss (Tm.put t i X) := by
  have app : ∀ a b : List Int, Tm.applied ss (a ++ b) = Tm.applied ss a ++ Tm.applied ss b := fun a b => by unfold Tm.applied; rw [List.flatMap_append]
  have hsp : Tm.applied ss t = Tm.applied ss (t.take i) ++ (Tm.applied ss (Tm.part t i) ++ Tm.applied ss (t.drop (Tm.endAt t i))) := by
    rw [← app, ← app, ← Tm.split t i]
  have hrun : Tm.run (Tm.applied ss (Tm.part t i)) 1 = (Tm.applied ss (Tm.part t i)).length := Tm.run_applied h _ 1 (Tm.part_all et i) (Tm.part_run et hi)
  have hpos : 0 < (Tm.applied ss (Tm.part t i)).length := by
    rw [← hrun]
    cases hc : Tm.applied ss (Tm.part t i) with
    | nil => rw [hc] at hrun; simp [Tm.run] at hrun
    | cons q l => rw [Tm.run_cons]; omega
  refine ⟨by rw [hsp]; exact Tm.part_front hrun, by rw [hsp, List.length_append, List.length_append]; omega, fun X => ?_⟩
  rw [Tm.put_eq, Tm.put_eq, app, app]
  conv => lhs; rw [hsp]
  rw [Tm.endAt_front hrun, List.take_left]
  congr 1
  congr 1
  rw [← List.append_assoc, ← List.length_append, List.drop_left]
theorem Tm.rowL_in {rs : RuleL} {t : List Int} {a k : Nat} (hb : Tm.hitB rs t a k = true) : ∀ n, k < n → (k, a, Tm.hitVal rs t a k) ∈ Tm.rowL rs t a n
  | 0, h => by omega
  | n + 1, h => by
    rw [Tm.rowL, List.mem_append]
    by_cases e : k = n
    · subst e; rw [if_pos hb]; exact .inr (by simp)
    · exact .inl (Tm.rowL_in hb n (by omega))
theorem Tm.allL_in {rs : RuleL} {t : List Int} {a k : Nat} (hb : Tm.hitB rs t a k = true) (hk : k < rs.length) : ∀ m, a < m → (k, a, Tm.hitVal rs t a k) ∈ Tm.allL rs t m
  | 0, h => by omega
  | m + 1, h => by
    rw [Tm.allL, List.mem_append]
    by_cases e : a = m
    · subst e; exact .inr (Tm.rowL_in hb _ hk)
    · exact .inl (Tm.allL_in hb hk m (by omega))
theorem Tm.fit_back {L R : List Int} {ss : List (List Int)} (hr : Tm.ruleErr L R = 0) (hs : Tm.subErr ss = 0) : ∃ m, Tm.fit L (Tm.applied ss L) = some m ∧ Tm.applied (Tm.fitL m 8) R = Tm.applied ss R := by
  obtain ⟨eL, eR, _, _, _, hf⟩ := Tm.ruleErr_ok hr
  obtain ⟨m, h1, _, h3⟩ := Tm.fit_made L ss (Terms.of hs) (Tm.err_all eL) _ 0 (fun _ => none) rfl (by omega) (fun x z h => by cases h)
  refine ⟨m, by simpa [Tm.fit, Tm.applied] using h1, ?_⟩
  have key : ∀ l : List Int, (∀ s ∈ l, s ∈ R) → Tm.applied (Tm.fitL m 8) l = Tm.applied ss l := by
    intro l
    induction l with
    | nil => intro _; rfl
    | cons s l ih =>
      intro hl
      rw [Tm.applied_cons, Tm.applied_cons, ih fun q hq => hl q (by simp [hq])]
      congr 1
      have hsR := hl s (by simp)
      have h8 : -8 ≤ s := (Tm.known_mem eR hsR).1
      rw [Tm.piece_fitL h8]
      unfold Tm.found
      by_cases h0 : s < 0
      · rw [if_pos h0]
        have hm : s ∈ L := by
          have := List.any_eq_false.1 hf s hsR
          unfold freeIn at this
          rw [decide_eq_true h0, Bool.true_and, Bool.not_eq_true, Bool.not_eq_false'] at this
          exact Tm.hasB_mem this
        obtain ⟨j, hj, e⟩ := List.getElem_of_mem hm
        have := h3 j (Nat.zero_le _) hj (by rw [List.getElem?_eq_getElem hj, e]; exact h0)
        rw [List.getElem?_eq_getElem hj, e] at this
        rw [show m s = some (Tm.piece ss s) from this]
        rfl
      · rw [if_neg h0]
        unfold Tm.piece
        rw [if_neg h0]
  exact key R fun _ h => h
theorem Tm.lean_true {rs : RuleL} {t : List Int} {er : Int} {l : LeanL} (h : Tm.LeanSays rs t er l) {x : Nat × Nat × List (List Int) × List Int} (hx : x ∈ l) :
    Tm.subErr x.2.2.1 = 0 ∧ Tm.err t = 0 ∧ ((Tm.applied x.2.2.1 t).length ≤ 30 → Tm.stepErr rs (Tm.applied x.2.2.1 t) = 0 → ∃ s ∈ Tm.stepVal rs (Tm.applied x.2.2.1 t), s.1 = x.1 ∧ s.2.2 = x.2.2.2) := by
  rcases h with ⟨_, _, rfl⟩ | ⟨h0, ⟨_, _, _, hm⟩ | ⟨_, rfl⟩⟩
  · cases hx
  · obtain ⟨e1, e2, e3⟩ := Tm.leanErr_zero h0
    obtain ⟨k, i, o, hk, hi, ho, hx⟩ := (hm x).1 hx
    obtain ⟨x1, x2, _, hs, hle, hv⟩ := ho.mem x hx
    obtain ⟨hsub, eP, _, heq, _⟩ := Tm.meet_true hs
    obtain ⟨_, hall⟩ := Tm.rulesErr_ok e1
    have hru := hall k hk
    obtain ⟨eL, eR, fL, fR, _⟩ := Tm.ruleErr_ok hru
    refine ⟨hsub, e2, fun hlen hst => ?_⟩
    generalize x.2.2.1 = val at *
    have hte := Terms.of hsub
    have eU := Tm.err_applied hte e2 hlen
    obtain ⟨p1, p2, p3⟩ := Tm.applied_at hte e2 hi
    rcases Tm.ln_ref (val := val) (m := i) hsub e2 (Tm.oth_err eR fR) hi with ⟨l1, _, l3⟩ | ⟨_, l3⟩
    · rw [l3] at hv
      obtain ⟨m, f1, f2⟩ := Tm.fit_back hru (Tm.shv_sub hsub)
      rw [Tm.applied_shv (Tm.own_ge fL), ← heq, ← p1] at f1
      rw [Tm.applied_shv (Tm.own_ge fR)] at f2
      have hb : Tm.hitB rs (Tm.applied val t) (Tm.applied val (t.take i)).length k = true := by
        rw [Tm.hitB_fit eL eU p2, f1]
        rfl
      obtain ⟨q1, q2⟩ := Tm.hit_fit eL eR eU p2 f1
      rw [f2, p3] at q2
      rw [if_neg (by omega)] at q2
      refine ⟨(k, (Tm.applied val (t.take i)).length, Tm.hitVal rs (Tm.applied val t) (Tm.applied val (t.take i)).length k), ?_, x1.symm, ?_⟩
      · unfold Tm.stepVal
        rw [if_pos hst]
        exact Tm.allL_in hb hk _ p2
      · show Tm.hitVal _ _ _ _ = _
        rw [q2, hv]
    · rw [l3] at hle; cases hle
  · cases hx
theorem Tm.step_two {rs : RuleL} {t : List Int} (hr : Tm.rulesErr rs = 0) (ht : Tm.err t = 0) (h : Tm.stepErr rs t ≠ 0) : Tm.stepErr rs t = 2 := by
  obtain ⟨_, hall⟩ := Tm.rulesErr_ok hr
  have hrow : ∀ a, a < t.length → ∀ n, n ≤ rs.length → Tm.rowE rs t a n = 0 ∨ Tm.rowE rs t a n = 2 := by
    intro a ha n
    induction n with
    | zero => exact fun _ => .inl rfl
    | succ n ih =>
      intro hn
      rw [Tm.rowE]
      rcases ih (by omega) with h0 | h0
      · rw [if_pos h0]
        by_cases hb : Tm.hitB rs t a n = true
        · rw [if_pos hb]
          obtain ⟨eL, eR, _⟩ := Tm.ruleErr_ok (hall n (by omega))
          rw [Tm.hitB_fit eL ht ha, Option.isSome_iff_exists] at hb
          obtain ⟨m, hm⟩ := hb
          rw [(Tm.hit_fit eL eR ht ha hm).1]
          split
          · exact .inr rfl
          · exact .inl rfl
        · rw [if_neg hb]; exact .inl rfl
      · rw [if_neg (by omega)]; exact .inr h0
  have hallE : ∀ m, m ≤ t.length → Tm.allE rs t m = 0 ∨ Tm.allE rs t m = 2 := by
    intro m
    induction m with
    | zero => exact fun _ => .inl rfl
    | succ m ih =>
      intro hm
      rw [Tm.allE]
      rcases ih (by omega) with h0 | h0
      · rw [if_pos h0]; exact hrow m (by omega) _ (Nat.le_refl _)
      · rw [if_neg (by omega)]; exact .inr h0
  have he : Tm.stepErr rs t = Tm.allE rs t t.length := by unfold Tm.stepErr; rw [if_pos hr, if_pos ht]
  rw [he] at h ⊢
  rcases hallE _ (Nat.le_refl _) with h1 | h1
  · exact absurd h1 h
  · exact h1
end Go.Proofs.Ytgeknojpcjadkaa
namespace Go.Proofs.Ytgeknojpcjadkaa
open Go.Proofs Go.RowKit Go.Shelf Go.Maps
theorem Tm.stepVal_le (rs : RuleL) (t : List Int) : (Tm.stepVal rs t).length ≤ 1000 := by
  unfold Tm.stepVal
  by_cases h : Tm.stepErr rs t = 0
  · rw [if_pos h]
    unfold Tm.stepErr at h
    by_cases h1 : Tm.rulesErr rs = 0
    · rw [if_pos h1] at h
      by_cases h2 : Tm.err t = 0
      · have h3 := Tm.allL_le rs t t.length
        have h4 := Tm.err_len h2
        have h5 := (Tm.rulesErr_ok h1).1
        have h6 : t.length * rs.length ≤ 30 * 8 := Nat.mul_le_mul h4 h5
        omega
      · rw [if_neg h2] at h; exact absurd h h2
    · rw [if_neg h1] at h; exact absurd h h1
  · rw [if_neg h]; simp
def StepsAt (n : Nat) (W : World) (v : Value) (sts : StepL) : Prop := ∃ a c, v = .slice a sts.length c ∧ ∀ j, j < sts.length → ∃ g, a = some ⟨g, 0, none⟩ ∧ g < n ∧ ∃ ad c', W.cell? ⟨g, j * 3, none⟩ = some (.int .i64 ((sts[j]?.getD (0, 0, [])).1 : Int)) ∧ W.cell? ⟨g, j * 3 + 1, none⟩ = some (.int .i64 ((sts[j]?.getD (0, 0, [])).2.1 : Int)) ∧
    W.cell? ⟨g, j * 3 + 2, none⟩ = some (.slice ad (sts[j]?.getD (0, 0, [])).2.2.length c') ∧ Ints n W ad (sts[j]?.getD (0, 0, [])).2.2 ∧ (sts[j]?.getD (0, 0, [])).2.2.length ≤ c' ∧ c' ≤ maxLen
theorem NewT.steps {base : Nat} {W : World} {v : Value} {sts : StepL} (h : NewT base W v sts) : StepsAt W.heap.size W v sts := by
  obtain ⟨a, c, rfl⟩ := h.slice
  refine ⟨a, c, rfl, fun j hj => ?_⟩
  obtain ⟨g, cap, e, hat⟩ := h.at (by omega)
  cases e
  obtain ⟨ad, c', c0, c1, c2, i, q⟩ := hat j hj
  exact ⟨g, rfl, by simpa using lt_of_cell c0, ad, c', c0, c1, c2, i, q⟩
theorem StepsAt.below {n : Nat} {A B : World} (h : Below n A B) {v : Value} {sts : StepL} (hi : StepsAt n A v sts) : StepsAt n B v sts := by
  obtain ⟨a, c, rfl, hat⟩ := hi
  refine ⟨a, c, rfl, fun j hj => ?_⟩
  obtain ⟨g, e, hg, ad, c', c0, c1, c2, i, q⟩ := hat j hj
  exact ⟨g, e, hg, ad, c', (h.cell (p := ⟨g, j * 3, none⟩) hg).trans c0, (h.cell (p := ⟨g, j * 3 + 1, none⟩) hg).trans c1, (h.cell (p := ⟨g, j * 3 + 2, none⟩) hg).trans c2, i.below h, q⟩
theorem StepsAt.mono {n m : Nat} (hnm : n ≤ m) {A : World} {v : Value} {sts : StepL} (hi : StepsAt n A v sts) : StepsAt m A v sts := by
  obtain ⟨a, c, rfl, hat⟩ := hi
  refine ⟨a, c, rfl, fun j hj => ?_⟩
  obtain ⟨g, e, hg, ad, c', c0, c1, c2, i, q⟩ := hat j hj
  exact ⟨g, e, by omega, ad, c', c0, c1, c2, i.mono hnm, q⟩
end Go.Proofs.Ytgeknojpcjadkaa
namespace Go.Proofs.Ytgeknojpcjadkaa
open Go.Proofs Go.RowKit Go.Shelf
def lnB (r : Nat) (tz : List Int) (sts : StepL) (i : Nat) : Bool := (sts.take i).any fun s => decide (s.1 = r) && sameB s.2.2 tz
theorem lnB_zero (r : Nat) (tz : List Int) (sts : StepL) : lnB r tz sts 0 = false := rfl
theorem lnB_succ {r : Nat} {tz : List Int} {sts : StepL} {i : Nat} (h : i < sts.length) : lnB r tz sts (i + 1) = (lnB r tz sts i || (decide ((sts[i]?.getD (0, 0, [])).1 = r) && sameB (sts[i]?.getD (0, 0, [])).2.2 tz)) := by
  unfold lnB
  rw [List.take_add_one, List.any_append, List.getElem?_eq_getElem h]
  simp
theorem lnB_all {r : Nat} {tz : List Int} {sts : StepL} (h : ∃ s ∈ sts, s.1 = r ∧ s.2.2 = tz) : lnB r tz sts sts.length = true := by
  obtain ⟨s, hs, e1, e2⟩ := h
  unfold lnB
  rw [List.take_length]
  refine List.any_eq_true.2 ⟨s, hs, ?_⟩
  rw [decide_eq_true e1, e2]
  simp [sameB]
theorem Tm.LeanSays.rules {rs : RuleL} {t : List Int} {er : Int} {l : LeanL} (h : Tm.LeanSays rs t er l) (hp : 0 < l.length) : Tm.rulesErr rs = 0 := by
  rcases h with ⟨_, _, rfl⟩ | ⟨h0, _⟩
  · simp at hp
  · exact (Tm.leanErr_zero h0).1
end Go.Proofs.Ytgeknojpcjadkaa
