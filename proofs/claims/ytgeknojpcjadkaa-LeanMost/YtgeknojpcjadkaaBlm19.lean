/-
  Parts of the proof: Met1, Met4, Met6, Met7, Lea11, Lea0, Lea13, Lea14, Rul6b, RRef5, Lea16.
-/
import Derived.Test.YtgeknojpcjadkaaBlm11
import Derived.Deep.RegionHeld3
import Derived.Deep.DrawnRows
import Derived.Deep.QuietTactic
import Derived.BigQuiet
import Derived.LaidEqlPtr
import Derived.Deep.AppendLies
import Derived.Test.YtgeknojpcjadkaaBlm12
import Derived.Test.YtgeknojpcjadkaaBlm13
import Derived.Test.YtgeknojpcjadkaaBlm2
import Derived.Test.YtgeknojpcjadkaaBlm1
import Derived.Test.YtgeknojpcjadkaaBlm16
import Derived.Test.YtgeknojpcjadkaaBlm18
import Derived.Deep.RegionLaw
import Derived.Test.YtgeknojpcjadkaaBlm7
import Derived.Test.YtgeknojpcjadkaaBlm10
namespace Go.Proofs.Ytgeknojpcjadkaa
open Go.Proofs Go.RowKit Go.Shelf Go.Maps
namespace Mt
open Wb (App TermSb Same Sb App_cons App_flatten)
def Resp (n : Nat) (Z : Nat → List Int) (C : Nat → Nat) (θ : Sb) : Prop := ∀ i j, i < n → j < n → C i = C j → App θ (Z i) = App θ (Z j)
def tied (C : Nat → Nat) (a b : Nat) : Nat → Nat := fun k => if C k = C a then C b else C k
def cls (n : Nat) (C : Nat → Nat) : Nat := ((List.range n).filter fun c => (List.range n).any fun k => C k == c).length
end Mt
end Go.Proofs.Ytgeknojpcjadkaa
namespace Go.Proofs.Ytgeknojpcjadkaa
open Go.Proofs Go.RowKit Go.Shelf Go.Maps
attribute [local go_sem ↓] Go.wp_at_zero Go.wp_at_succ
namespace Mt
end Mt
end Go.Proofs.Ytgeknojpcjadkaa
namespace Go.Proofs.Ytgeknojpcjadkaa
open Go.Proofs Go.RowKit Go.Shelf Go.Maps
namespace Mt
open Wb (App TermSb Same Sb)
def rdC (g : Nat) (W : World) (k : Nat) : Nat := match W.cell? ⟨g, k, none⟩ with
  | some (.int _ z) => z.toNat
  | _ => 0
def left (n g : Nat) (v : Value) (W : World) : Nat := 2 * cls n (rdC g W) + (match v with | .bool true => 1 | _ => 0)
end Mt
end Go.Proofs.Ytgeknojpcjadkaa
namespace Go.Proofs.Ytgeknojpcjadkaa
open Go.Proofs Go.RowKit Go.Shelf Go.Maps
theorem least {P : Nat → Prop} : ∀ n, (∃ k, k < n ∧ P k) → ∃ k, k < n ∧ P k ∧ ∀ j, j < k → ¬ P j := by
  intro n
  induction n with
  | zero => rintro ⟨k, h, _⟩; omega
  | succ n ih =>
    intro h
    by_cases h1 : ∃ k, k < n ∧ P k
    · obtain ⟨k, hk, h2, h3⟩ := ih h1
      exact ⟨k, by omega, h2, h3⟩
    · obtain ⟨k, hk, h2⟩ := h
      have : k = n := by
        by_cases e : k = n
        · exact e
        · exact absurd ⟨k, by omega, h2⟩ h1
      subst this
      exact ⟨k, by omega, h2, fun j hj hp => h1 ⟨j, hj, hp⟩⟩
def Tm.LrOn (rs : RuleL) (t : List Int) (P : Nat → Nat → Prop) (l : LeanL) : Prop :=
  (∀ k i, P k i → ∃ o, Tm.LnAt t k (Tm.others (rs[k]?.getD ([], [])).1) (Tm.others (rs[k]?.getD ([], [])).2) i o) ∧ l.Pairwise LnLt ∧
  ∀ x, x ∈ l ↔ ∃ k i o, P k i ∧ Tm.LnAt t k (Tm.others (rs[k]?.getD ([], [])).1) (Tm.others (rs[k]?.getD ([], [])).2) i o ∧ x ∈ o
theorem Tm.LrOn.len {rs : RuleL} {t : List Int} {P : Nat → Nat → Prop} {l : LeanL} (h : Tm.LrOn rs t P l) (hP : ∀ k i, P k i → k < 8 ∧ i < 30) : l.length ≤ 240 := by
  have key : ∀ (l : LeanL), l.Pairwise LnLt → (∀ x ∈ l, x.1 < 8 ∧ x.2.1 < 30) → ∀ b, (∀ x ∈ l, b ≤ x.2.1 * 8 + x.1) → b + l.length ≤ 240 ∨ l = [] := by
    intro l
    induction l with
    | nil => exact fun _ _ _ _ => .inr rfl
    | cons x l ih =>
      intro hp hb b hbx
      rw [List.pairwise_cons] at hp
      have h0 := hbx x (by simp)
      have h1 := hb x (by simp)
      rcases ih hp.2 (fun y hy => hb y (by simp [hy])) (b + 1) (fun y hy => by
        have h2 := hp.1 y hy
        have h3 := hb y (by simp [hy])
        unfold LnLt at h2
        omega) with h | h
      · left; simp; omega
      · left; subst h; simp; omega
  have hb : ∀ x ∈ l, x.1 < 8 ∧ x.2.1 < 30 := fun x hx => by
    obtain ⟨k, i, o, hk, ho, hx⟩ := (h.2.2 x).1 hx
    obtain ⟨a1, a2, _⟩ := ho.mem x hx
    have := hP k i hk
    omega
  rcases key l h.2.1 hb 0 (fun _ _ => Nat.zero_le _) with h | h
  · omega
  · subst h; simp
theorem Tm.oth_run (t : List Int) : ∀ n, Tm.run (Tm.others t) n = Tm.run t n := by
  induction t with
  | nil => intro n; rfl
  | cons s l ih =>
    intro n
    cases n with
    | zero => rw [Tm.run_zero, Tm.run_zero]
    | succ n =>
      show Tm.run (Tm.oth s :: Tm.others l) (n + 1) = _
      have hr : Tm.room (Tm.oth s) = Tm.room s := by
        unfold Tm.oth
        by_cases hs : s < 0
        · rw [if_pos hs, Wb.room_var hs, Wb.room_var (by omega)]
        · rw [if_neg hs]
      rw [Tm.run_cons, Tm.run_cons, hr, ih]
theorem Tm.oth_err {t : List Int} (h : Tm.err t = 0) (hf : t.any foreignB = false) : Tm.err (Tm.others t) = 0 := by
  refine Tm.err_ok (by rw [Tm.others_length]; exact Tm.err_len h) ?_ (by rw [Tm.oth_run, Tm.others_length]; exact Tm.err_run h)
  rw [List.all_eq_true]
  intro s hs
  obtain ⟨q, hq, rfl⟩ := List.mem_map.1 hs
  obtain ⟨h1, h2⟩ := Tm.known_mem h hq
  have h3 := List.any_eq_false.1 hf q hq
  simp only [foreignB, decide_eq_true_eq] at h3
  refine Tm.known_of ?_ ?_ <;> (unfold Tm.oth; split <;> omega)
theorem Tm.LeanSays.lens {rs : RuleL} {t : List Int} {er : Int} {l : LeanL} (h : Tm.LeanSays rs t er l) : l.length ≤ 1000 ∧ ∀ x ∈ l, x.2.2.1.length ≤ 1000 := by
  rcases h with ⟨_, _, rfl⟩ | ⟨h0, ⟨_, h⟩ | ⟨_, rfl⟩⟩
  · exact ⟨by simp, fun x hx => by cases hx⟩
  · obtain ⟨e1, e2, _⟩ := Tm.leanErr_zero h0
    obtain ⟨h8, _⟩ := Tm.rulesErr_ok e1
    have l30 := Tm.err_len e2
    refine ⟨?_, fun x hx => ?_⟩
    · have hr : Tm.LrOn rs t (fun k i => k < rs.length ∧ i < t.length) l := ⟨fun k i hk => h.1 k hk.1 i hk.2, h.2.1, fun x => (h.2.2 x).trans ⟨fun ⟨k, i, o, hk, hi, ho⟩ => ⟨k, i, o, ⟨hk, hi⟩, ho⟩, fun ⟨k, i, o, hk, ho⟩ => ⟨k, i, o, hk.1, hk.2, ho⟩⟩⟩
      have := hr.len fun k i hk => by omega
      omega
    · obtain ⟨k, i, o, hk, hi, ho, hx⟩ := (h.2.2 x).1 hx
      obtain ⟨_, _, _, hs, _⟩ := ho.mem x hx
      obtain ⟨hsub, _⟩ := Tm.meet_true hs
      have := (Tm.subErr_ok hsub).1
      omega
  · exact ⟨by simp, fun x hx => by cases hx⟩
end Go.Proofs.Ytgeknojpcjadkaa
namespace Go.Proofs.Ytgeknojpcjadkaa
open Go.Proofs Go.RowKit Go.Shelf
theorem Tm.own_ge {t : List Int} (h : t.any foreignB = false) : ∀ s ∈ t, -4 ≤ s := fun s hs => by
  have := List.any_eq_false.1 h s hs
  simp only [foreignB, decide_eq_true_eq] at this
  omega
theorem Tm.applied_at {ss : List (List Int)} (h : Terms ss) {t : List Int} (et : Tm.err t = 0) {i : Nat} (hi : i < t.length) :
    Tm.part (Tm.applied ss t) (Tm.applied ss (t.take i)).length = Tm.applied ss (Tm.part t i) ∧ (Tm.applied ss (t.take i)).length < (Tm.applied ss t).length ∧
    ∀ X, Tm.put (Tm.applied ss t) (Tm.applied ss (t.take i)).length (Tm.applied ss X) = Tm.applied ss (Tm.put t i X) := by
  have app : ∀ a b : List Int, Tm.applied ss (a ++ b) = Tm.applied ss a ++ Tm.applied ss b := fun a b => by unfold Tm.applied; rw [List.flatMap_append]
  have hsp : Tm.applied ss t = Tm.applied ss (t.take i) ++ (Tm.applied ss (Tm.part t i) ++ Tm.applied ss (t.drop (Tm.endAt t i))) := by
    rw [← app, ← app, ← Tm.split t i]
  have hrun : Tm.run (Tm.applied ss (Tm.part t i)) 1 = (Tm.applied ss (Tm.part t i)).length := Tm.run_applied h _ 1 (Tm.part_all et i) (Tm.part_run et hi)
  have hpos : 0 < (Tm.applied ss (Tm.part t i)).length := by
    rw [← hrun]
    cases hc : Tm.applied ss (Tm.part t i) with
    | nil => rw [hc] at hrun; simp [Tm.run] at hrun
    | cons q l => rw [Tm.run_cons]; omega
  refine ⟨by rw [hsp]; exact Tm.part_front hrun, by rw [hsp, List.length_append, List.length_append]; omega, fun X => ?_⟩
  rw [Tm.put_eq, Tm.put_eq, app, app]
  conv => lhs; rw [hsp]
  rw [Tm.endAt_front hrun, List.take_left]
  congr 1
  congr 1
  rw [← List.append_assoc, ← List.length_append, List.drop_left]
end Go.Proofs.Ytgeknojpcjadkaa
namespace Go.Proofs.Ytgeknojpcjadkaa
open Go.Proofs Go.RowKit Go.Shelf Go.Maps
theorem Tm.stepVal_le (rs : RuleL) (t : List Int) : (Tm.stepVal rs t).length ≤ 1000 := by
  unfold Tm.stepVal
  by_cases h : Tm.stepErr rs t = 0
  · rw [if_pos h]
    unfold Tm.stepErr at h
    by_cases h1 : Tm.rulesErr rs = 0
    · rw [if_pos h1] at h
      by_cases h2 : Tm.err t = 0
      · have h3 := Tm.allL_le rs t t.length
        have h4 := Tm.err_len h2
        have h5 := (Tm.rulesErr_ok h1).1
        have h6 : t.length * rs.length ≤ 30 * 8 := Nat.mul_le_mul h4 h5
        omega
      · rw [if_neg h2] at h; exact absurd h h2
    · rw [if_neg h1] at h; exact absurd h h1
  · rw [if_neg h]; simp
def StepsAt (n : Nat) (W : World) (v : Value) (sts : StepL) : Prop := ∃ a c, v = .slice a sts.length c ∧ ∀ j, j < sts.length → ∃ g, a = some ⟨g, 0, none⟩ ∧ g < n ∧ ∃ ad c', W.cell? ⟨g, j * 3, none⟩ = some (.int .i64 ((sts[j]?.getD (0, 0, [])).1 : Int)) ∧ W.cell? ⟨g, j * 3 + 1, none⟩ = some (.int .i64 ((sts[j]?.getD (0, 0, [])).2.1 : Int)) ∧
    W.cell? ⟨g, j * 3 + 2, none⟩ = some (.slice ad (sts[j]?.getD (0, 0, [])).2.2.length c') ∧ Ints n W ad (sts[j]?.getD (0, 0, [])).2.2 ∧ (sts[j]?.getD (0, 0, [])).2.2.length ≤ c' ∧ c' ≤ maxLen
theorem NewT.steps {base : Nat} {W : World} {v : Value} {sts : StepL} (h : NewT base W v sts) : StepsAt W.heap.size W v sts := by
  obtain ⟨a, c, rfl⟩ := h.slice
  refine ⟨a, c, rfl, fun j hj => ?_⟩
  obtain ⟨g, cap, e, hat⟩ := h.at (by omega)
  cases e
  obtain ⟨ad, c', c0, c1, c2, i, q⟩ := hat j hj
  exact ⟨g, rfl, by simpa using lt_of_cell c0, ad, c', c0, c1, c2, i, q⟩
theorem StepsAt.below {n : Nat} {A B : World} (h : Below n A B) {v : Value} {sts : StepL} (hi : StepsAt n A v sts) : StepsAt n B v sts := by
  obtain ⟨a, c, rfl, hat⟩ := hi
  refine ⟨a, c, rfl, fun j hj => ?_⟩
  obtain ⟨g, e, hg, ad, c', c0, c1, c2, i, q⟩ := hat j hj
  exact ⟨g, e, hg, ad, c', (h.cell (p := ⟨g, j * 3, none⟩) hg).trans c0, (h.cell (p := ⟨g, j * 3 + 1, none⟩) hg).trans c1, (h.cell (p := ⟨g, j * 3 + 2, none⟩) hg).trans c2, i.below h, q⟩
theorem StepsAt.mono {n m : Nat} (hnm : n ≤ m) {A : World} {v : Value} {sts : StepL} (hi : StepsAt n A v sts) : StepsAt m A v sts := by
  obtain ⟨a, c, rfl, hat⟩ := hi
  refine ⟨a, c, rfl, fun j hj => ?_⟩
  obtain ⟨g, e, hg, ad, c', c0, c1, c2, i, q⟩ := hat j hj
  exact ⟨g, e, by omega, ad, c', c0, c1, c2, i.mono hnm, q⟩
end Go.Proofs.Ytgeknojpcjadkaa
namespace Go.Proofs.Ytgeknojpcjadkaa
open Go.Proofs Go.RowKit Go.Shelf
def Tm.bth (ss vs : List (List Int)) : List (List Int) := (List.range 8).map fun i : Nat => if i < 4 then ss[i]?.getD [] else vs[i - 4]?.getD []
theorem Tm.bth_at (ss vs : List (List Int)) {i : Nat} (h : i < 8) : (Tm.bth ss vs)[i]?.getD [] = if i < 4 then ss[i]?.getD [] else vs[i - 4]?.getD [] := by
  unfold Tm.bth
  rw [List.getElem?_map, List.getElem?_range h]
  rfl
theorem Tm.bth_sub {ss vs : List (List Int)} (h : Tm.subErr ss = 0) (hv : Tm.subErr vs = 0) : Tm.subErr (Tm.bth ss vs) = 0 := by
  have hl : (Tm.bth ss vs).length = 8 := by simp [Tm.bth]
  unfold Tm.subErr
  rw [if_pos hl]
  refine Tm.firstErr_of fun k hk => ?_
  rw [hl] at hk
  rw [Tm.bth_at ss vs hk]
  by_cases h4 : k < 4
  · rw [if_pos h4]
    exact Terms.of h k hk
  · rw [if_neg h4]
    exact Terms.of hv (k - 4) (by omega)
theorem Tm.applied_bth {ss vs : List (List Int)} : ∀ {t : List Int}, (∀ s ∈ t, -4 ≤ s) → Tm.applied (Tm.bth ss vs) t = Tm.applied ss t
  | [], _ => rfl
  | s :: l, h => by
    rw [Tm.applied_cons, Tm.applied_cons, Tm.applied_bth fun q hq => h q (by simp [hq])]
    congr 1
    have h4 := h s (by simp)
    unfold Tm.piece
    by_cases hs : s < 0
    · rw [if_pos hs, if_pos hs, Tm.bth_at ss vs (show (-1 - s).toNat < 8 by omega), if_pos (by omega)]
    · rw [if_neg hs, if_neg hs]
theorem Tm.applied_bth_oth {ss vs : List (List Int)} : ∀ {L : List Int}, (∀ s ∈ L, -4 ≤ s) → Tm.applied (Tm.bth ss vs) (Tm.others L) = Tm.applied vs L
  | [], _ => rfl
  | s :: l, h => by
    show Tm.applied (Tm.bth ss vs) (Tm.oth s :: Tm.others l) = Tm.applied vs (s :: l)
    rw [Tm.applied_cons, Tm.applied_cons, Tm.applied_bth_oth fun q hq => h q (by simp [hq])]
    congr 1
    have h4 := h s (by simp)
    unfold Tm.piece Tm.oth
    by_cases hs : s < 0
    · rw [if_pos hs, if_pos hs, if_pos (by omega), Tm.bth_at ss vs (show (-1 - (s - 4)).toNat < 8 by omega), if_neg (by omega)]
      congr 2
      omega
    · rw [if_neg hs, if_neg hs, if_neg hs]
theorem Tm.lean_most {rs : RuleL} {t : List Int} {l : LeanL} (h : Tm.LeanSays rs t 0 l) {ss : List (List Int)} (hs : Tm.subErr ss = 0) (hlen : (Tm.applied ss t).length ≤ 30) (hst : Tm.stepErr rs (Tm.applied ss t) = 0)
    {k : Nat} (hk : k < t.length) (hk0 : ¬ t[k]?.getD 0 < 0) {s : Nat × Nat × List Int} (hm : s ∈ Tm.stepVal rs (Tm.applied ss t)) (hp : s.2.1 = (Tm.applied ss (t.take k)).length) : ∃ x ∈ l, x.2.1 = k ∧ x.1 = s.1 := by
  rcases h with ⟨h1, h2, _⟩ | ⟨h0, ⟨_, hat, _, hmem⟩ | ⟨⟨_, _, _, _, hb, _⟩, _⟩⟩
  · exact absurd h2.symm h1
  · obtain ⟨e1, e2, e3⟩ := Tm.leanErr_zero h0
    obtain ⟨_, hall⟩ := Tm.rulesErr_ok e1
    have hte := Terms.of hs
    have eU := Tm.err_applied hte e2 hlen
    obtain ⟨p1, p2, _⟩ := Tm.applied_at hte e2 hk
    unfold Tm.stepVal at hm
    rw [if_pos hst] at hm
    obtain ⟨_, hr, hb, _⟩ := Tm.allL_mem _ hm
    rw [hp] at hb
    obtain ⟨eL, eR, fL, fR, _⟩ := Tm.ruleErr_ok (hall _ hr)
    rw [Tm.hitB_fit eL eU p2, Option.isSome_iff_exists] at hb
    obtain ⟨m, hf⟩ := hb
    have ePu := Tm.part_err eU p2
    have hv := Tm.subErr_fitL eL ePu hf
    have hmk := Tm.fit_makes eL ePu hf
    have ePt := Tm.part_err e2 hk
    have hown : ∀ q ∈ Tm.part t k, -4 ≤ q := fun q hq => Tm.own_ge e3 q (by
      rw [Tm.split t k]
      exact List.mem_append_right _ (List.mem_append_left _ hq))
    have heq : Tm.applied (Tm.bth ss (Tm.fitL m 8)) (Tm.part t k) = Tm.applied (Tm.bth ss (Tm.fitL m 8)) (Tm.others (rs[s.1]?.getD ([], [])).1) := by
      rw [Tm.applied_bth hown, Tm.applied_bth_oth (Tm.own_ge fL), hmk, p1]
    obtain ⟨o, ho⟩ := hat _ hr k hk
    rcases id ho with ⟨c, _⟩ | ⟨_, ⟨val, c⟩, _⟩ | ⟨_, val, _, _, c⟩
    · exact absurd c hk0
    · rcases Tm.meet_most (Tm.bth_sub hs hv) ePt (Tm.oth_err eL fL) heq c with ⟨c1, _⟩ | ⟨_, c1, _⟩
      · omega
      · cases c1
    · exact ⟨_, (hmem _).2 ⟨s.1, k, o, hr, hk, ho, by rw [c]; exact List.mem_singleton.2 rfl⟩, rfl, rfl⟩
  · exact absurd rfl hb
def lmB (k r : Nat) (l : LeanL) (n : Nat) : Bool := (l.take n).any fun x => decide (x.2.1 = k) && decide (x.1 = r)
theorem lmB_zero (k r : Nat) (l : LeanL) : lmB k r l 0 = false := rfl
theorem lmB_succ {k r : Nat} {l : LeanL} {n : Nat} (h : n < l.length) : lmB k r l (n + 1) = (lmB k r l n || (decide (l[n].2.1 = k) && decide (l[n].1 = r))) := by
  unfold lmB
  rw [List.take_add_one, List.any_append, List.getElem?_eq_getElem h]
  simp
theorem lmB_all {k r : Nat} {l : LeanL} (h : ∃ x ∈ l, x.2.1 = k ∧ x.1 = r) : lmB k r l l.length = true := by
  obtain ⟨x, hx, e1, e2⟩ := h
  unfold lmB
  rw [List.take_length]
  refine List.any_eq_true.2 ⟨x, hx, ?_⟩
  rw [decide_eq_true e1, decide_eq_true e2]
  rfl
theorem Tm.applied_pre (ss : List (List Int)) (t : List Int) (k : Nat) : (Tm.applied ss (t.take k)).length ≤ (Tm.applied ss t).length := by
  conv => rhs; rw [← List.take_append_drop k t]
  unfold Tm.applied
  rw [List.flatMap_append, List.length_append]
  omega
theorem nat_beq (a b : Nat) : ((a : Int) == (b : Int)) = decide (a = b) := by
  by_cases h : a = b
  · subst h
    simp
  · rw [decide_eq_false h, beq_eq_false_iff_ne]
    omega
end Go.Proofs.Ytgeknojpcjadkaa
