/-
  PLAIN MATHEMATICS: what pairs of rules are is one thing; the pairs of a group's rules. · hasplaw.pairsBegun. · PLAIN MATHEMATICS of RulesTrue: which steps there are; how many; each goes to what is below, and brings no new variable. · What RulesTrue leans on: sums, and what stands in the term that a step comes to. · norm.Form, norm.Is. · hasplaw.normBegun.
-/
import Derived.Test.YtloealnfbpegnaeBum18
import Derived.Test.YtloealnfbpegnaeBum21
import Derived.Test.YtloealnfbpegnaeBum17
import Derived.Test.YtloealnfbpegnaeBum11
namespace Go.Proofs.Ytloealnfbpegnae
open Go.Proofs Go.RowKit Go.Shelf Go.Maps

section
variable {L1 R1 L2 R2 : List Int} {pass : Nat → Bool}
theorem Tm.Laps.at {n : Nat} {l : PairL} (h : Tm.Laps L1 R1 L2 R2 pass n l) : ∀ m, m < n → ∃ l', Tm.Laps L1 R1 L2 R2 pass m l' ∧ (pass m = true ∨ (∃ val, Tm.MeetSays [(Tm.part L1 m, L2)] 0 false val) ∨ (∃ val, Tm.MeetSays [(Tm.part L1 m, L2)] 0 true val ∧ Tm.prtErr val L1 R1 (m : Int) R2 = 0)) := by
  induction h with
  | zero => intro m hm; omega
  | @pass k l h hp ih =>
    intro m hm
    by_cases e : m = k
    · subst e; exact ⟨l, h, .inl hp⟩
    · exact ih m (by omega)
  | @no k l val h hp hs ih =>
    intro m hm
    by_cases e : m = k
    · subst e; exact ⟨l, h, .inr (.inl ⟨val, hs⟩)⟩
    · exact ih m (by omega)
  | @yes k l val h hp hs he ih =>
    intro m hm
    by_cases e : m = k
    · subst e; exact ⟨l, h, .inr (.inr ⟨val, hs, he⟩)⟩
    · exact ih m (by omega)
theorem Tm.Laps.one {n : Nat} {l l' : PairL} (h : Tm.Laps L1 R1 L2 R2 pass n l) (h' : Tm.Laps L1 R1 L2 R2 pass n l') : l = l' := by
  induction h generalizing l' with
  | zero => cases h'; rfl
  | pass h hp ih =>
    cases h' with
    | pass h2 _ => exact ih h2
    | no _ hq _ => rw [hp] at hq; cases hq
    | yes _ hq _ _ => rw [hp] at hq; cases hq
  | no h hp hs ih =>
    cases h' with
    | pass _ hq => rw [hp] at hq; cases hq
    | no h2 _ _ => exact ih h2
    | yes _ _ hs2 _ => have := (hs.one hs2).2.1; cases this
  | yes h hp hs he ih =>
    cases h' with
    | pass _ hq => rw [hp] at hq; cases hq
    | no _ _ hs2 => have := (hs.one hs2).2.1; cases this
    | yes h2 _ hs2 _ =>
      obtain ⟨_, _, rfl⟩ := hs.one hs2
      rw [ih h2]
theorem Tm.LapsSays.right {l ps : PairL} {e : Int} (h : Tm.Laps L1 R1 L2 R2 pass L1.length l) (h' : Tm.LapsSays L1 R1 L2 R2 pass e ps) : e = 0 ∧ ps = l := by
  rcases h' with ⟨rfl, h2⟩ | ⟨⟨h0, m, l', hm, hl', hp, hs⟩, rfl⟩
  · exact ⟨rfl, h2.one h⟩
  · obtain ⟨_, _, q | ⟨val, q⟩ | ⟨val, q, q'⟩⟩ := h.at m hm
    · rw [hp] at q; cases q
    · rcases hs with ⟨is, v, hs⟩ | ⟨v, hs, _⟩
      · exact absurd (q.one hs).1.symm h0
      · have := (q.one hs).2.1; cases this
    · rcases hs with ⟨is, v, hs⟩ | ⟨v, hs, he⟩
      · exact absurd (q.one hs).1.symm h0
      · obtain ⟨_, _, rfl⟩ := q.one hs
        rw [q'] at he
        exact absurd he.symm h0
end
theorem Tm.OfSays.right {rs : RuleL} {a b : Nat} {l ps : PairL} {e : Int} (hr : Tm.rulesErr rs = 0) (ha : a < rs.length) (hb : b < rs.length) (h : Tm.Laps (rs[a]?.getD ([], [])).1 (rs[a]?.getD ([], [])).2 (Tm.others (rs[b]?.getD ([], [])).1) (Tm.others (rs[b]?.getD ([], [])).2) (Tm.passB (rs[a]?.getD ([], [])).1 (a : Int) (b : Int)) (rs[a]?.getD ([], [])).1.length l) (h' : Tm.OfSays rs (a : Int) (b : Int) e ps) : e = 0 ∧ ps = l := by
  rcases h' with ⟨h1, _⟩ | ⟨_, h2, _⟩ | ⟨_, a', b', _, _, ea, eb, h3⟩
  · exact absurd hr h1
  · exact absurd ⟨by omega, by omega, by omega, by omega⟩ h2
  · obtain rfl : a = a' := by omega
    obtain rfl : b = b' := by omega
    exact h3.right h

/-- Two symbols clash ahead of any variable. -/
def Tm.clash : List Int → List Int → Bool
  | s :: x, t :: y => if s < 0 ∨ t < 0 then false else if s = t then Tm.clash x y else true
  | _, _ => false
theorem Tm.clash_no (θ : Wb.Sb) : ∀ (x y : List Int), Tm.clash x y = true → Wb.App θ x ≠ Wb.App θ y := by
  intro x
  induction x with
  | nil => intro y h; simp [Tm.clash] at h
  | cons s x ih =>
    intro y h
    cases y with
    | nil => simp [Tm.clash] at h
    | cons t y =>
      rw [Tm.clash] at h
      by_cases h1 : s < 0 ∨ t < 0
      · rw [if_pos h1] at h; cases h
      · rw [if_neg h1] at h
        rw [Wb.App_cons, Wb.App_cons, if_neg (by omega), if_neg (by omega), List.singleton_append, List.singleton_append]
        by_cases e : s = t
        · rw [if_pos e] at h
          intro hh
          exact ih y h (List.cons.inj hh).2
        · intro hh
          exact e (List.cons.inj hh).1
theorem Tm.no_of {x y : List Int} (h : Tm.firstPair [(x, y)] = 0) (hc : Tm.clash x y = true) : Tm.MeetSays [(x, y)] 0 false [] :=
  .inr (.inl ⟨h, fun θ _ H => Tm.clash_no θ x y hc (H 0 (by simp)), rfl, rfl, rfl⟩)

def Tm.leastB (vs : List (List Int)) : Bool := (List.range 8).all fun i : Nat => (vs[i]?.getD []).length != 1 || decide (0 ≤ (vs[i]?.getD []).headD 0) || decide (-1 - (i : Int) ≤ (vs[i]?.getD []).headD 0)
theorem Tm.mguOf {ps : PairL} {vs : List (List Int)} (h1 : Tm.subErr vs = 0) (hs : Wb.Same ps ps.length (Tm.ofL vs)) (hl : Tm.leastB vs = true) (hm : ∀ θ, Wb.TermSb θ → Wb.Same ps ps.length θ → ∀ i : Nat, i < 8 → θ (-1 - (i : Int)) = Wb.App θ (vs[i]?.getD [])) : Wb.Mgu ps (Tm.ofL vs) := by
  have h8 := (Tm.subErr_ok h1).1
  have hi : ∀ v : Int, -8 ≤ v → v < 0 → ∃ i : Nat, i < 8 ∧ v = -1 - (i : Int) := fun v a b => ⟨(-1 - v).toNat, by omega, by omega⟩
  refine ⟨Tm.ofL_term h1, fun v a b s hs' => ?_, hs, fun θ hθ H v a b => ?_, fun v u a b e hu => ?_⟩
  · obtain ⟨i, hi8, rfl⟩ := hi v a b
    rw [Tm.ofL_at vs hi8] at hs'
    have hk := Tm.err_all (Tm.firstErr_all (Tm.subErr_ok h1).2 i (by omega))
    rw [List.all_eq_true] at hk
    exact ⟨Tm.known_ge (hk s hs'), Tm.known_lt (hk s hs')⟩
  · obtain ⟨i, hi8, rfl⟩ := hi v a b
    rw [Tm.ofL_at vs hi8]
    exact hm θ hθ H i hi8
  · obtain ⟨i, hi8, rfl⟩ := hi v a b
    rw [Tm.ofL_at vs hi8] at e
    unfold Tm.leastB at hl
    rw [List.all_eq_true] at hl
    have := hl i (List.mem_range.2 hi8)
    rw [e] at this
    simp at this
    omega
theorem Wb.split2 {θ : Wb.Sb} (hθ : Wb.TermSb θ) {a b c d : List Int} (ha : Tm.run a 1 = a.length) (hc : Tm.run c 1 = c.length) (h : Wb.App θ (4 :: (a ++ b)) = Wb.App θ (4 :: (c ++ d))) : Wb.App θ a = Wb.App θ c ∧ Wb.App θ b = Wb.App θ d := by
  rw [Wb.App_cons, Wb.App_cons, if_neg (by omega), Wb.App_append, Wb.App_append] at h
  exact Wb.split (Wb.App_run hθ a 1 ha) (Wb.App_run hθ c 1 hc) (List.cons.inj h).2
theorem Tm.yes_of {ps : PairL} {vs : List (List Int)} (h0 : Tm.firstPair ps = 0) (h1 : Tm.subErr vs = 0) (M : Wb.Mgu ps (Tm.ofL vs)) : Tm.MeetSays ps 0 true vs := by
  have h8 := (Tm.subErr_ok h1).1
  refine .inr (.inr (.inl ⟨h0, _, M, fun i hi => ?_, rfl, rfl, (Tm.sbL_ofL h8).symm⟩))
  rw [Tm.ofL_at _ hi]
  exact Tm.err_len (Tm.firstErr_all (Tm.subErr_ok h1).2 i (by omega))

def Tm.pv0 : List (List Int) := [[0], [-2], [-3], [-4], [-2], [-6], [-7], [-8]]
def Tm.pv1 : List (List Int) := [[2, -2], [-2], [-3], [-4], [-2], [-6], [-7], [-8]]
def Tm.pv2 : List (List Int) := [[4, -5, -6], [-2], [-3], [-4], [-5], [-6], [-2], [-8]]
theorem Tm.pm0 : Tm.MeetSays [([4, -1, -2], [4, 0, -5])] 0 true Tm.pv0 := by
  refine Tm.yes_of (by decide +kernel) (by decide +kernel) (Tm.mguOf (by decide +kernel) (fun j hj => ?_) (by decide +kernel) fun θ hθ H i hi => ?_)
  · obtain rfl : j = 0 := by simp at hj; omega
    decide +kernel
  · obtain ⟨e1, e2⟩ := Wb.split2 (a := [-1]) (b := [-2]) (c := [0]) (d := [-5]) hθ (by decide +kernel) (by decide +kernel) (H 0 (by simp))
    rw [Wb.App1 θ (by omega)] at e1
    rw [Wb.App1 θ (by omega), Wb.App1 θ (by omega)] at e2
    match i, hi with
    | 0, _ => exact e1
    | 1, _ => exact (Wb.App1 θ (by omega)).symm
    | 2, _ => exact (Wb.App1 θ (by omega)).symm
    | 3, _ => exact (Wb.App1 θ (by omega)).symm
    | 4, _ => exact e2.symm.trans (Wb.App1 θ (by omega)).symm
    | 5, _ => exact (Wb.App1 θ (by omega)).symm
    | 6, _ => exact (Wb.App1 θ (by omega)).symm
    | 7, _ => exact (Wb.App1 θ (by omega)).symm
theorem Tm.pm1 : Tm.MeetSays [([4, -1, -2], [4, 2, -5, -5])] 0 true Tm.pv1 := by
  refine Tm.yes_of (by decide +kernel) (by decide +kernel) (Tm.mguOf (by decide +kernel) (fun j hj => ?_) (by decide +kernel) fun θ hθ H i hi => ?_)
  · obtain rfl : j = 0 := by simp at hj; omega
    decide +kernel
  · obtain ⟨e1, e2⟩ := Wb.split2 (a := [-1]) (b := [-2]) (c := [2, -5]) (d := [-5]) hθ (by decide +kernel) (by decide +kernel) (H 0 (by simp))
    rw [Wb.App1 θ (by omega)] at e1
    rw [Wb.App1 θ (by omega), Wb.App1 θ (by omega)] at e2
    have e3 : Wb.App θ [2, -5] = Wb.App θ [2, -2] := by
      rw [Wb.App_cons θ 2 [-5], Wb.App_cons θ 2 [-2], Wb.App1 θ (by omega), Wb.App1 θ (by omega), e2]
    match i, hi with
    | 0, _ => exact e1.trans e3
    | 1, _ => exact (Wb.App1 θ (by omega)).symm
    | 2, _ => exact (Wb.App1 θ (by omega)).symm
    | 3, _ => exact (Wb.App1 θ (by omega)).symm
    | 4, _ => exact e2.symm.trans (Wb.App1 θ (by omega)).symm
    | 5, _ => exact (Wb.App1 θ (by omega)).symm
    | 6, _ => exact (Wb.App1 θ (by omega)).symm
    | 7, _ => exact (Wb.App1 θ (by omega)).symm
theorem Tm.pm2 : Tm.MeetSays [([4, -1, -2], [4, 4, -5, -6, -7])] 0 true Tm.pv2 := by
  refine Tm.yes_of (by decide +kernel) (by decide +kernel) (Tm.mguOf (by decide +kernel) (fun j hj => ?_) (by decide +kernel) fun θ hθ H i hi => ?_)
  · obtain rfl : j = 0 := by simp at hj; omega
    decide +kernel
  · obtain ⟨e1, e2⟩ := Wb.split2 (a := [-1]) (b := [-2]) (c := [4, -5, -6]) (d := [-7]) hθ (by decide +kernel) (by decide +kernel) (H 0 (by simp))
    rw [Wb.App1 θ (by omega)] at e1
    rw [Wb.App1 θ (by omega), Wb.App1 θ (by omega)] at e2
    match i, hi with
    | 0, _ => exact e1
    | 1, _ => exact (Wb.App1 θ (by omega)).symm
    | 2, _ => exact (Wb.App1 θ (by omega)).symm
    | 3, _ => exact (Wb.App1 θ (by omega)).symm
    | 4, _ => exact (Wb.App1 θ (by omega)).symm
    | 5, _ => exact (Wb.App1 θ (by omega)).symm
    | 6, _ => exact e2.symm.trans (Wb.App1 θ (by omega)).symm
    | 7, _ => exact (Wb.App1 θ (by omega)).symm

/-- A place where symbols clash, or that is passed over. -/
theorem Tm.Laps.clash {L1 R1 L2 R2 : List Int} {pass : Nat → Bool} {m : Nat} {l : PairL} (h : Tm.Laps L1 R1 L2 R2 pass m l) (hc : pass m = true ∨ (pass m = false ∧ Tm.firstPair [(Tm.part L1 m, L2)] = 0 ∧ Tm.clash (Tm.part L1 m) L2 = true)) : Tm.Laps L1 R1 L2 R2 pass (m + 1) l := by
  rcases hc with hp | ⟨hp, h1, h2⟩
  · exact .pass h hp
  · exact .no h hp (Tm.no_of h1 h2)
/-- Nothing but such places. -/
def Tm.allClash (L1 L2 : List Int) (pass : Nat → Bool) (from' upto : Nat) : Bool := (List.range (upto - from')).all fun k => pass (from' + k) || (decide (Tm.firstPair [(Tm.part L1 (from' + k), L2)] = 0) && Tm.clash (Tm.part L1 (from' + k)) L2)
theorem Tm.Laps.run {L1 R1 L2 R2 : List Int} {pass : Nat → Bool} {m : Nat} {l : PairL} (h : Tm.Laps L1 R1 L2 R2 pass m l) : ∀ n, Tm.allClash L1 L2 pass m (m + n) = true → Tm.Laps L1 R1 L2 R2 pass (m + n) l := by
  intro n
  induction n with
  | zero => intro _; exact h
  | succ n ih =>
    intro hc
    unfold Tm.allClash at hc ih
    rw [Nat.add_sub_cancel_left] at hc ih
    rw [List.range_succ, List.all_append, Bool.and_eq_true] at hc
    refine (ih hc.1).clash ?_
    have h2 := hc.2
    simp at h2
    cases hp : pass (m + n) with
    | true => exact .inl rfl
    | false =>
      rw [hp] at h2
      simp at h2
      exact .inr ⟨rfl, h2.1, h2.2⟩

/-- The pairs of two rules of a group. -/
def Tm.GrpLaps (a b : Nat) (l : PairL) : Prop := Tm.Laps (groupL[a]?.getD ([], [])).1 (groupL[a]?.getD ([], [])).2 (Tm.others (groupL[b]?.getD ([], [])).1) (Tm.others (groupL[b]?.getD ([], [])).2) (Tm.passB (groupL[a]?.getD ([], [])).1 (a : Int) (b : Int)) (groupL[a]?.getD ([], [])).1.length l
theorem Tm.grp_no (a b : Nat) (h : Tm.allClash (groupL[a]?.getD ([], [])).1 (Tm.others (groupL[b]?.getD ([], [])).1) (Tm.passB (groupL[a]?.getD ([], [])).1 (a : Int) (b : Int)) 0 (groupL[a]?.getD ([], [])).1.length = true) : Tm.GrpLaps a b [] := by
  have := Tm.Laps.run (.zero : Tm.Laps (groupL[a]?.getD ([], [])).1 (groupL[a]?.getD ([], [])).2 (Tm.others (groupL[b]?.getD ([], [])).1) (Tm.others (groupL[b]?.getD ([], [])).2) (Tm.passB (groupL[a]?.getD ([], [])).1 (a : Int) (b : Int)) 0 []) (groupL[a]?.getD ([], [])).1.length (by rw [Nat.zero_add]; exact h)
  rwa [Nat.zero_add] at this
/-- A rule that laps over the third one at place 1 alone. -/
theorem Tm.grp_yes (b : Nat) (vs : List (List Int)) (x : List Int × List Int) (hs : Tm.MeetSays [([4, -1, -2], Tm.others (groupL[b]?.getD ([], [])).1)] 0 true vs)
    (h1 : Tm.allClash [4, 4, -1, -2, -3] (Tm.others (groupL[b]?.getD ([], [])).1) (Tm.passB [4, 4, -1, -2, -3] 2 (b : Int)) 0 1 = true) (h2 : Tm.allClash [4, 4, -1, -2, -3] (Tm.others (groupL[b]?.getD ([], [])).1) (Tm.passB [4, 4, -1, -2, -3] 2 (b : Int)) 2 5 = true)
    (h3 : Tm.passB [4, 4, -1, -2, -3] 2 (b : Int) 1 = false) (h4 : Tm.prtErr vs [4, 4, -1, -2, -3] [4, -1, 4, -2, -3] 1 (Tm.others (groupL[b]?.getD ([], [])).2) = 0) (h5 : Tm.prtVal vs [4, 4, -1, -2, -3] [4, -1, 4, -2, -3] 1 (Tm.others (groupL[b]?.getD ([], [])).2) = x) : Tm.GrpLaps 2 b [x] := by
  have q1 : Tm.Laps [4, 4, -1, -2, -3] [4, -1, 4, -2, -3] (Tm.others (groupL[b]?.getD ([], [])).1) (Tm.others (groupL[b]?.getD ([], [])).2) (Tm.passB [4, 4, -1, -2, -3] 2 (b : Int)) 1 [] := Tm.Laps.run .zero 1 h1
  have q2 := Tm.Laps.yes (val := vs) q1 h3 (by rw [show Tm.part [4, 4, -1, -2, -3] 1 = [4, -1, -2] from by decide +kernel]; exact hs) h4
  have q3 := Tm.Laps.run q2 3 h2
  rw [show Tm.prtVal vs [4, 4, -1, -2, -3] [4, -1, 4, -2, -3] ((1 : Nat) : Int) (Tm.others (groupL[b]?.getD ([], [])).2) = x from h5] at q3
  exact q3
theorem Tm.grp20 : Tm.GrpLaps 2 0 [([4, -1, -2], [4, 0, 4, -1, -2])] := Tm.grp_yes 0 Tm.pv0 _ Tm.pm0 (by decide +kernel) (by decide +kernel) (by decide +kernel) (by decide +kernel) (by decide +kernel)
theorem Tm.grp21 : ∃ x, Tm.GrpLaps 2 1 [x] := ⟨_, Tm.grp_yes 1 Tm.pv1 _ Tm.pm1 (by decide +kernel) (by decide +kernel) (by decide +kernel) (by decide +kernel) rfl⟩
theorem Tm.grp22 : Tm.GrpLaps 2 2 [([4, 4, -1, 4, -2, -3, -4], [4, 4, -1, -2, 4, -3, -4])] := Tm.grp_yes 2 Tm.pv2 _ Tm.pm2 (by decide +kernel) (by decide +kernel) (by decide +kernel) (by decide +kernel) (by decide +kernel)
theorem Tm.grp_len : ∀ a b, a < 3 → b < 3 → ∃ l, Tm.GrpLaps a b l ∧ l.length = if a = 2 then 1 else 0
  | 0, 0, _, _ => ⟨[], Tm.grp_no 0 0 (by decide +kernel), rfl⟩
  | 0, 1, _, _ => ⟨[], Tm.grp_no 0 1 (by decide +kernel), rfl⟩
  | 0, 2, _, _ => ⟨[], Tm.grp_no 0 2 (by decide +kernel), rfl⟩
  | 1, 0, _, _ => ⟨[], Tm.grp_no 1 0 (by decide +kernel), rfl⟩
  | 1, 1, _, _ => ⟨[], Tm.grp_no 1 1 (by decide +kernel), rfl⟩
  | 1, 2, _, _ => ⟨[], Tm.grp_no 1 2 (by decide +kernel), rfl⟩
  | 2, 0, _, _ => ⟨_, Tm.grp20, rfl⟩
  | 2, 1, _, _ => ⟨_, Tm.grp21.choose_spec, rfl⟩
  | 2, 2, _, _ => ⟨_, Tm.grp22, rfl⟩
theorem Tm.grp_of {a b : Nat} {l ps : PairL} {e : Int} (ha : a < 3) (hb : b < 3) (h : Tm.GrpLaps a b l) (h' : Tm.OfSays groupL (a : Int) (b : Int) e ps) : e = 0 ∧ ps = l := h'.right Tm.g7 ha hb h
theorem Tm.grp_to {i j : Nat} {l : PairL} (h : Tm.AllTo groupL i j l) : i ≤ 3 → j ≤ 3 ∧ (i = 3 → j = 0) ∧ l.length = if i = 2 then j else if i = 3 then 3 else 0 := by
  induction h with
  | zero => intro _; exact ⟨by omega, fun h => by omega, rfl⟩
  | @next i j l ps h hj hs ih =>
    intro hi
    have hj3 : j < 3 := hj
    obtain ⟨q1, q2, q3⟩ := ih hi
    by_cases hi3 : i = 3
    · subst hi3
      rcases hs with ⟨h1, _⟩ | ⟨_, _, h2, _⟩ | ⟨_, a, b, ha, _, ea, _⟩
      · exact absurd Tm.g7 h1
      · omega
      · have : a < 3 := ha
        omega
    · obtain ⟨l', g1, g2⟩ := Tm.grp_len i j (by omega) hj3
      obtain ⟨_, rfl⟩ := Tm.grp_of (by omega) hj3 g1 hs
      refine ⟨by omega, fun h => absurd h hi3, ?_⟩
      rw [List.length_append, q3, g2]
      by_cases h2 : i = 2
      · rw [if_pos h2, if_pos h2, if_pos h2]
      · rw [if_neg h2, if_neg h2, if_neg h2, if_neg hi3]
  | @row i l h ih =>
    intro hi
    obtain ⟨q1, q2, q3⟩ := ih (by omega)
    refine ⟨by omega, fun _ => rfl, ?_⟩
    rw [q3]
    have hl : groupL.length = 3 := rfl
    by_cases h2 : i = 2
    · subst h2; rfl
    · rw [if_neg h2]
      by_cases h3 : i = 3
      · omega
      · rw [if_neg h3]
        by_cases h1 : i + 1 = 2
        · rw [if_pos h1]
        · rw [if_neg h1, if_neg (by omega)]
theorem Tm.grp_all {er : Int} {ps : PairL} (h : Tm.AllPSays groupL er ps) : er = 0 ∧ ps.length = 3 := by
  rcases h with ⟨l, hl, q⟩ | ⟨i, j, l, qs, hi, hj, hl, hs, h0, _⟩
  · have h3 : l.length = 3 := (Tm.grp_to (i := 3) hl (Nat.le_refl _)).2.2
    rcases q with ⟨_, rfl, rfl⟩ | ⟨q, _⟩
    · exact ⟨rfl, h3⟩
    · omega
  · have hi3 : i < 3 := hi
    have hj3 : j < 3 := hj
    obtain ⟨l', g1, _⟩ := Tm.grp_len i j hi3 hj3
    exact absurd (Tm.grp_of hi3 hj3 g1 hs).1 h0
theorem Tm.grp_out {er : Int} {ps : PairL} (h : Tm.OfSays groupL 2 3 er ps) : er = 5 ∧ ps = [] := by
  rcases h with ⟨h1, _⟩ | ⟨_, _, h2, h3⟩ | ⟨_, a, b, _, hb, _, eb, _⟩
  · exact absurd Tm.g7 h1
  · exact ⟨h2, h3⟩
  · have : b < 3 := hb
    omega

end Go.Proofs.Ytloealnfbpegnae

namespace Go.Proofs.Ytloealnfbpegnae
open Go.Proofs Go.RowKit Go.Shelf Go.Maps

theorem g_of (a b : Nat) (ha : a < 3) (hb : b < 3) (x : List Int × List Int) (h : Tm.GrpLaps a b [x]) (ar : Option Addr) (w : World) (hR : RulesAt w.heap.size w ar groupL) :
    Calls Try.prog 12 #[.slice ar 3 3, .int .i64 (a : Int), .int .i64 (b : Int)] w fun e w' => ∃ v, e = .returned (.tuple #[v, .int .i64 0]) ∧ NewP w.heap.size w' v [x] ∧ Below w.heap.size w w' := by
  refine (Of_any groupL (a : Int) (b : Int) ar 3 w hR).mono ?_
  rintro e w' ⟨er, ps, v, hs, rfl, n, B⟩
  obtain ⟨rfl, rfl⟩ := Tm.grp_of ha hb h hs
  exact ⟨v, rfl, n, B⟩
theorem g_of23 (ar : Option Addr) (w : World) (hR : RulesAt w.heap.size w ar groupL) :
    Calls Try.prog 12 #[.slice ar 3 3, .int .i64 2, .int .i64 3] w fun e w' => ∃ v, e = .returned (.tuple #[v, .int .i64 5]) ∧ NewP w.heap.size w' v [] ∧ Below w.heap.size w w' := by
  refine (Of_any groupL 2 3 ar 3 w hR).mono ?_
  rintro e w' ⟨er, ps, v, hs, rfl, n, B⟩
  obtain ⟨rfl, rfl⟩ := Tm.grp_out hs
  exact ⟨v, rfl, n, B⟩
theorem g_allP (ar : Option Addr) (w : World) (hR : RulesAt w.heap.size w ar groupL) :
    Calls Try.prog 8 #[.slice ar 3 3] w fun e w' => ∃ va vc, e = .returned (.tuple #[.slice va 3 vc, .int .i64 0]) ∧ Below w.heap.size w w' := by
  refine (AllP_any groupL ar 3 w hR (by decide)).mono ?_
  rintro e w' ⟨er, ps, v, hs, rfl, n, B⟩
  obtain ⟨rfl, h3⟩ := Tm.grp_all hs
  obtain ⟨va, vc, rfl⟩ := n.slice
  exact ⟨va, vc, by rw [h3], B⟩
/-- The one pair of a list of one. -/
theorem p_one {w : World} {v : Value} {base : Nat} {x : List Int × List Int} (h : NewP base w v [x]) : ∃ b off cap aL cL aR cR, v = .slice (some ⟨b, off, none⟩) 1 cap ∧ w.cell? ⟨b, off, none⟩ = some (.slice aL x.1.length cL) ∧ w.cell? ⟨b, off + 1, none⟩ = some (.slice aR x.2.length cR) ∧ Ints w.heap.size w aL x.1 ∧ Ints w.heap.size w aR x.2 := by
  obtain ⟨a, cap, rfl, hR, _⟩ := h.at
  obtain ⟨b, off, rfl, _, aL, cL, aR, cR, h1, h2, h3, h4, _⟩ := hR 0 (by simp)
  exact ⟨b, off, cap, aL, cL, aR, cR, rfl, by simpa using h1, by simpa using h2, h3, h4⟩

set_option maxRecDepth 100000 in
set_option maxHeartbeats 4000000 in
theorem pairsBegun_any (w : World) : Calls Try.prog 10 #[] w fun e w' => e = .returned (.bool true) ∧ Below w.heap.size w w' := by
  have h1 := hid (fun ar w hR => g_of 2 0 (by omega) (by omega) _ Tm.grp20 ar w hR)
  have h2 := hid (fun ar w hR => g_of 2 2 (by omega) (by omega) _ Tm.grp22 ar w hR)
  have s1 := hid (fun w a c hI => g_same [4, -1, -2] [4, -1, -2] 3 3 c a w rfl rfl (by simp) hI (by simp [sameB]))
  have s2 := hid (fun w a c hI => g_same [4, 0, 4, -1, -2] [4, 0, 4, -1, -2] 5 5 c a w rfl rfl (by simp) hI (by simp [sameB]))
  have s3 := hid (fun w a c hI => g_same [4, 4, -1, 4, -2, -3, -4] [4, 4, -1, 4, -2, -3, -4] 7 7 c a w rfl rfl (by simp) hI (by simp [sameB]))
  have s4 := hid (fun w a c hI => g_same [4, 4, -1, -2, 4, -3, -4] [4, 4, -1, -2, 4, -3, -4] 7 7 c a w rfl rfl (by simp) hI (by simp [sameB]))
  simp only [List.map_cons, List.map_nil] at s1 s2 s3 s4
  go_enter Try.func10, Try.ntmps10
  go_wp2_with fail
  refine (group_any _).mono ?_
  rintro e w1 ⟨a1, rfl, hg1, b1⟩
  go_wp2_with fail
  refine (h1.out a1 w1 hg1).mono ?_
  rintro e w2 ⟨v2, rfl, n2, b2⟩
  obtain ⟨x2, c2, rfl⟩ := n2.slice
  have B2 := b1.trans (b2.mono b1.size)
  clear h1 hg1 b1 b2
  go_wp2_with fail
  refine (group_any _).mono ?_
  rintro e w3 ⟨a3, rfl, hg3, b3⟩
  go_wp2_with fail
  refine (h2.out a3 w3 hg3).mono ?_
  rintro e w4 ⟨v4, rfl, n4, b4⟩
  obtain ⟨x4, c4, rfl⟩ := n4.slice
  have N4 := hid ((n2.below b3).below b4)
  have B3 := B2.trans (b3.mono B2.size)
  have B4 := B3.trans (b4.mono B3.size)
  clear h2 hg3 b3 b4 n2 B2 B3
  go_wp2_with fail
  refine (group_any _).mono ?_
  rintro e w5 ⟨a5, rfl, hg5, b5⟩
  go_wp2_with fail
  refine (g_of23 a5 w5 hg5).mono ?_
  rintro e w6 ⟨v6, rfl, n6, b6⟩
  obtain ⟨x6, c6, rfl⟩ := n6.slice
  have N6 := hid ((N4.out.below b5).below b6)
  have M6 := hid ((n4.below b5).below b6)
  have B5 := B4.trans (b5.mono B4.size)
  have B6 := B5.trans (b6.mono B5.size)
  clear hg5 b5 b6 n4 n6 N4 B4 B5
  go_wp2_with fail
  refine (group_any _).mono ?_
  rintro e w7 ⟨a7, rfl, hg7, b7⟩
  go_wp2_with fail
  refine (g_allP a7 w7 hg7).mono ?_
  rintro e w8 ⟨x8, c8, rfl, b8⟩
  have N8 := hid ((N6.out.below b7).below b8)
  have M8 := hid ((M6.out.below b7).below b8)
  have B7 := B6.trans (b7.mono B6.size)
  have B8 := B7.trans (b8.mono B7.size)
  clear hg7 b7 b8 N6 M6 B6 B7
  obtain ⟨b, off, cap, aL, cL, aR, cR, e, k0, k1, i0, i1⟩ := p_one N8.out
  cases e
  simp only [List.length_cons, List.length_nil] at k0 k1
  go_wp2_with fail
  refine (s1.out w8 aL cL i0).mono ?_
  rintro e w9 ⟨rfl, b9⟩
  have N9 := hid (N8.out.below b9)
  have M9 := hid (M8.out.below b9)
  have B9 := B8.trans (b9.mono B8.size)
  clear N8 M8 B8 b9 k0 k1 i0 i1 s1
  obtain ⟨_, _, _, aL, cL, aR, cR, e, k0, k1, i0, i1⟩ := p_one N9.out
  cases e
  simp only [List.length_cons, List.length_nil] at k0 k1
  go_wp2_with fail
  refine (s2.out w9 aR cR i1).mono ?_
  rintro e w10 ⟨rfl, b10⟩
  have M10 := hid (M9.out.below b10)
  have B10 := B9.trans (b10.mono B9.size)
  clear N9 M9 B9 b10 k0 k1 i0 i1 s2
  obtain ⟨bb, oo, cap, aL, cL, aR, cR, e, k0, k1, i0, i1⟩ := p_one M10.out
  cases e
  simp only [List.length_cons, List.length_nil] at k0 k1
  go_wp2_with fail
  refine (s3.out w10 aL cL i0).mono ?_
  rintro e w11 ⟨rfl, b11⟩
  have M11 := hid (M10.out.below b11)
  have B11 := B10.trans (b11.mono B10.size)
  clear M10 B10 b11 k0 k1 i0 i1 s3
  obtain ⟨_, _, _, aL, cL, aR, cR, e, k0, k1, i0, i1⟩ := p_one M11.out
  cases e
  simp only [List.length_cons, List.length_nil] at k0 k1
  go_wp2_with fail
  refine (s4.out w11 aR cR i1).mono ?_
  rintro e w12 ⟨rfl, b12⟩
  go_wp2
  go_ret
  exact ⟨rfl, B11.trans (b12.mono B11.size)⟩

end Go.Proofs.Ytloealnfbpegnae

namespace Go.Proofs.Ytloealnfbpegnae
open Go.Proofs Go.RowKit Go.Shelf Go.Maps

theorem Tm.rowL_mem {rs : RuleL} {t : List Int} {a : Nat} {x : Nat × Nat × List Int} : ∀ n, x ∈ Tm.rowL rs t a n → x.1 < n ∧ x.2.1 = a ∧ Tm.hitB rs t a x.1 = true ∧ x.2.2 = Tm.hitVal rs t a x.1 := by
  intro n
  induction n with
  | zero => intro h; simp [Tm.rowL] at h
  | succ n ih =>
    intro h
    rw [Tm.rowL, List.mem_append] at h
    rcases h with h | h
    · obtain ⟨h1, h2⟩ := ih h
      exact ⟨by omega, h2⟩
    · split at h
      · simp only [List.mem_cons, List.not_mem_nil, or_false] at h
        subst h
        exact ⟨by simp, rfl, by assumption, rfl⟩
      · simp at h
theorem Tm.allL_mem {rs : RuleL} {t : List Int} {x : Nat × Nat × List Int} : ∀ m, x ∈ Tm.allL rs t m → x.2.1 < m ∧ x.1 < rs.length ∧ Tm.hitB rs t x.2.1 x.1 = true ∧ x.2.2 = Tm.hitVal rs t x.2.1 x.1 := by
  intro m
  induction m with
  | zero => intro h; simp [Tm.allL] at h
  | succ m ih =>
    intro h
    rw [Tm.allL, List.mem_append] at h
    rcases h with h | h
    · obtain ⟨h1, h2⟩ := ih h
      exact ⟨by omega, h2⟩
    · obtain ⟨h1, h2, h3, h4⟩ := Tm.rowL_mem _ h
      rw [h2]
      exact ⟨by omega, h1, h3, h4⟩
theorem Tm.rowE_all {rs : RuleL} {t : List Int} {a : Nat} : ∀ n, Tm.rowE rs t a n = 0 → ∀ k, k < n → Tm.hitB rs t a k = true → Tm.hitErr rs t a k = 0 := by
  intro n
  induction n with
  | zero => intro _ k hk; omega
  | succ n ih =>
    intro h k hk hb
    rw [Tm.rowE] at h
    by_cases h0 : Tm.rowE rs t a n = 0
    · rw [if_pos h0] at h
      by_cases e : k = n
      · subst e; rw [if_pos hb] at h; exact h
      · exact ih h0 k (by omega) hb
    · rw [if_neg h0] at h; exact absurd h h0
theorem Tm.allE_all {rs : RuleL} {t : List Int} : ∀ m, Tm.allE rs t m = 0 → ∀ a, a < m → ∀ k, k < rs.length → Tm.hitB rs t a k = true → Tm.hitErr rs t a k = 0 := by
  intro m
  induction m with
  | zero => intro _ a ha; omega
  | succ m ih =>
    intro h a ha
    rw [Tm.allE] at h
    by_cases h0 : Tm.allE rs t m = 0
    · rw [if_pos h0] at h
      by_cases e : a = m
      · subst e; exact Tm.rowE_all _ h
      · exact ih h0 a (by omega)
    · rw [if_neg h0] at h; exact absurd h h0

/-! How many. -/
def Tm.cnt (f : Nat → Bool) : Nat → Nat
  | 0 => 0
  | n + 1 => Tm.cnt f n + (if f n = true then 1 else 0)
def Tm.sum (g : Nat → Nat) : Nat → Nat
  | 0 => 0
  | n + 1 => Tm.sum g n + g n
theorem Tm.sum_add (f g : Nat → Nat) : ∀ m, Tm.sum (fun a => f a + g a) m = Tm.sum f m + Tm.sum g m := by
  intro m
  induction m with
  | zero => rfl
  | succ m ih => simp only [Tm.sum, ih]; omega
theorem Tm.sum_zero : ∀ m, Tm.sum (fun _ => 0) m = 0 := by
  intro m
  induction m with
  | zero => rfl
  | succ m ih => simp only [Tm.sum, ih]
theorem Tm.sum_cnt (f : Nat → Bool) : ∀ m, Tm.sum (fun a => if f a = true then 1 else 0) m = Tm.cnt f m := by
  intro m
  induction m with
  | zero => rfl
  | succ m ih => simp only [Tm.sum, Tm.cnt, ih]
theorem Tm.sum_swap (h : Nat → Nat → Bool) (m : Nat) : ∀ n, Tm.sum (fun a => Tm.cnt (h a) n) m = Tm.sum (fun k => Tm.cnt (fun a => h a k) m) n := by
  intro n
  induction n with
  | zero => simp only [Tm.cnt, Tm.sum]; exact Tm.sum_zero m
  | succ n ih => simp only [Tm.cnt, Tm.sum]; rw [Tm.sum_add, ih, Tm.sum_cnt]
theorem Tm.sum_congr {f g : Nat → Nat} : ∀ m, (∀ a, a < m → f a = g a) → Tm.sum f m = Tm.sum g m := by
  intro m
  induction m with
  | zero => intro _; rfl
  | succ m ih => intro h; simp only [Tm.sum]; rw [ih (fun a ha => h a (by omega)), h m (by omega)]
theorem Tm.rowL_cnt (rs : RuleL) (t : List Int) (a : Nat) : ∀ n, (Tm.rowL rs t a n).length = Tm.cnt (Tm.hitB rs t a) n := by
  intro n
  induction n with
  | zero => rfl
  | succ n ih =>
    rw [Tm.rowL, List.length_append, ih, Tm.cnt]
    split <;> simp
theorem Tm.allL_cnt (rs : RuleL) (t : List Int) : ∀ m, (Tm.allL rs t m).length = Tm.sum (fun a => Tm.cnt (Tm.hitB rs t a) rs.length) m := by
  intro m
  induction m with
  | zero => rfl
  | succ m ih => rw [Tm.allL, List.length_append, ih, Tm.rowL_cnt]; rfl
theorem overL_cnt (t p : List Int) : ∀ m, m ≤ t.length → (overL t p (placesTo t m)).length = Tm.cnt (fun a => (Tm.fit p (Tm.part t a)).isSome) m := by
  intro m
  induction m with
  | zero => intro _; rfl
  | succ m ih =>
    intro h
    rw [placesTo_succ (by omega), Tm.cnt, ← ih (by omega)]
    cases hf : Tm.fit p (Tm.part t m) with
    | none => rw [overL_no _ ⟨m, by omega⟩ hf]; simp
    | some x => rw [overL_yes _ ⟨m, by omega⟩ hf]; simp
/-- There are steps just where a rule's L fits. -/
theorem Tm.steps_count {rs : RuleL} {t : List Int} (hr : Tm.rulesErr rs = 0) (ht : Tm.err t = 0) : (Tm.allL rs t t.length).length = Tm.sum (fun k => (Tm.overVal t (rs[k]?.getD ([], [])).1).length) rs.length := by
  obtain ⟨_, hall⟩ := Tm.rulesErr_ok hr
  rw [Tm.allL_cnt, Tm.sum_swap]
  refine Tm.sum_congr _ fun k hk => ?_
  have hL := (Tm.ruleErr_ok (hall k hk)).1
  unfold Tm.overVal
  rw [if_pos (Tm.fitErr_of ht hL), overL_cnt t _ t.length (Nat.le_refl _)]
  have : ∀ m, m ≤ t.length → Tm.cnt (fun a => Tm.hitB rs t a k) m = Tm.cnt (fun a => (Tm.fit (rs[k]?.getD ([], [])).1 (Tm.part t a)).isSome) m := by
    intro m
    induction m with
    | zero => intro _; rfl
    | succ m ih => intro h; rw [Tm.cnt, Tm.cnt, ih (by omega), Tm.hitB_fit hL ht (by omega)]
  exact this _ (Nat.le_refl _)

/-! What a step is. -/
/-- A step of a right term by a rule that is right. -/
structure Tm.Step1 (L R t u : List Int) (a : Nat) (m : Asg) : Prop where
  fit : Tm.fit L (Tm.part t a) = some m
  goes : u = Tm.put t a (Tm.applied (Tm.fitL m 8) R)
  small : u.length ≤ 30
theorem Tm.hit_step {rs : RuleL} {t : List Int} {a k : Nat} (hr : Tm.rulesErr rs = 0) (ht : Tm.err t = 0) (ha : a < t.length) (hk : k < rs.length) (hb : Tm.hitB rs t a k = true) (he : Tm.hitErr rs t a k = 0) :
    ∃ m, Tm.Step1 (rs[k]?.getD ([], [])).1 (rs[k]?.getD ([], [])).2 t (Tm.hitVal rs t a k) a m := by
  obtain ⟨_, hall⟩ := Tm.rulesErr_ok hr
  obtain ⟨hL, hR, _⟩ := Tm.ruleErr_ok (hall k hk)
  rw [Tm.hitB_fit hL ht ha, Option.isSome_iff_exists] at hb
  obtain ⟨m, hm⟩ := hb
  obtain ⟨e1, e2⟩ := Tm.hit_fit hL hR ht ha hm
  rw [he] at e1
  by_cases h30 : 30 < (Tm.put t a (Tm.applied (Tm.fitL m 8) (rs[k]?.getD ([], [])).2)).length
  · rw [if_pos h30] at e1; omega
  · rw [if_neg h30] at e2
    exact ⟨m, hm, e2, by rw [e2]; omega⟩
theorem Tm.put_self (t : List Int) (a : Nat) : Tm.put t a (Tm.part t a) = t := by rw [Tm.put_eq]; exact (Tm.split t a).symm
theorem Tm.Step1.parts {L R t u : List Int} {a : Nat} {m : Asg} (h : Tm.Step1 L R t u a m) (hL : Tm.err L = 0) (hR : Tm.err R = 0) (ht : Tm.err t = 0) (ha : a < t.length) :
    Terms (Tm.fitL m 8) ∧ Tm.applied (Tm.fitL m 8) L = Tm.part t a ∧ Tm.err (Tm.applied (Tm.fitL m 8) R) = 0 ∧ Tm.err u = 0 := by
  have hs := Terms.of (Tm.subErr_fitL hL (Tm.part_err ht ha) h.fit)
  have hl := h.small
  have hle := Tm.applied_put_le (t := t) (u := Tm.applied (Tm.fitL m 8) R) (a := a)
  rw [← h.goes] at hle
  have hu := Tm.err_applied hs hR (by omega)
  refine ⟨hs, Tm.fit_makes hL (Tm.part_err ht ha) h.fit, hu, ?_⟩
  rw [h.goes]
  exact Tm.put_err ht hu ha (by rw [← h.goes]; exact hl)
/-- Of a rule that falls the step goes to what is below. -/
theorem Tm.Step1.below {r : Int → Int} {L R t u : List Int} {a : Nat} {m : Asg} (h : Tm.Step1 L R t u a m) (hL : Tm.err L = 0) (hR : Tm.err R = 0) (ht : Tm.err t = 0) (ha : a < t.length) (hg : Tm.Gt r L R) : Tm.Gt r t u := by
  obtain ⟨hs, e1, e2, _⟩ := h.parts hL hR ht ha
  have h1 := Tm.Gt.stays hs hg hL hR
  have h2 := Tm.Gt.within h1 (by rw [e1]; exact Tm.part_err ht ha) e2 _ t a (Nat.lt_succ_self _) ht ha
  rw [e1, Tm.put_self, ← h.goes] at h2
  exact h2
/-- What is in what a variable of L becomes is in the term. -/
theorem Tm.fit_in (p t : List Int) : ∀ (n i k : Nat) (m m' : Asg), p.length - i = n → i ≤ p.length → (∀ x z, m x = some z → ∀ s ∈ z, s ∈ t) → Tm.fitGo t (p.drop i) k m = some m' → ∀ x z, m' x = some z → ∀ s ∈ z, s ∈ t := by
  intro n
  induction n with
  | zero =>
    intro i k m m' hn hi hm h
    obtain rfl : i = p.length := by omega
    rw [List.drop_length, Tm.fitGo_nil] at h
    cases h
    exact hm
  | succ n ih =>
    intro i k m m' hn hi hm h
    have hlt : i < p.length := by omega
    rw [List.drop_eq_getElem_cons hlt, Tm.fitGo] at h
    by_cases hs : p[i] < 0
    · rw [if_pos hs] at h
      by_cases hc : (m p[i]).isSome = true ∧ m p[i] ≠ some (Tm.part t k)
      · rw [if_pos hc] at h; cases h
      · rw [if_neg hc] at h
        refine ih (i + 1) (Tm.endAt t k) _ m' (by omega) (by omega) (fun x z hx => ?_) h
        by_cases e : x = p[i]
        · subst e
          rw [upd_same] at hx
          cases hx
          exact fun s hs => List.mem_of_mem_drop (List.mem_of_mem_take hs)
        · rw [upd_other _ _ e] at hx
          exact hm x z hx
    · rw [if_neg hs] at h
      by_cases hu : t[k]?.getD 0 = p[i]
      · rw [if_pos hu] at h
        exact ih (i + 1) (k + 1) m m' (by omega) (by omega) hm h
      · rw [if_neg hu] at h; cases h
/-- Each variable of L has something. -/
theorem Tm.fit_has (p t : List Int) : ∀ (n i k : Nat) (m m' : Asg), p.length - i = n → i ≤ p.length → Tm.fitGo t (p.drop i) k m = some m' → (∀ x, (m x).isSome = true → (m' x).isSome = true) ∧ ∀ s ∈ p.drop i, s < 0 → (m' s).isSome = true := by
  intro n
  induction n with
  | zero =>
    intro i k m m' hn hi h
    obtain rfl : i = p.length := by omega
    rw [List.drop_length, Tm.fitGo_nil] at h
    cases h
    exact ⟨fun _ h => h, fun s hs => by simp at hs⟩
  | succ n ih =>
    intro i k m m' hn hi h
    have hlt : i < p.length := by omega
    rw [List.drop_eq_getElem_cons hlt, Tm.fitGo] at h
    by_cases hs : p[i] < 0
    · rw [if_pos hs] at h
      by_cases hc : (m p[i]).isSome = true ∧ m p[i] ≠ some (Tm.part t k)
      · rw [if_pos hc] at h; cases h
      · rw [if_neg hc] at h
        obtain ⟨h1, h2⟩ := ih (i + 1) (Tm.endAt t k) _ m' (by omega) (by omega) h
        have hp := h1 p[i] (by rw [upd_same]; rfl)
        refine ⟨fun x hx => ?_, fun s hm hn => ?_⟩
        · by_cases e : x = p[i]
          · subst e; exact hp
          · exact h1 x (by rw [upd_other _ _ e]; exact hx)
        · rw [List.drop_eq_getElem_cons hlt, List.mem_cons] at hm
          rcases hm with rfl | hm
          · exact hp
          · exact h2 s hm hn
    · rw [if_neg hs] at h
      by_cases hu : t[k]?.getD 0 = p[i]
      · rw [if_pos hu] at h
        obtain ⟨h1, h2⟩ := ih (i + 1) (k + 1) m m' (by omega) (by omega) h
        refine ⟨h1, fun s hm hn => ?_⟩
        rw [List.drop_eq_getElem_cons hlt, List.mem_cons] at hm
        rcases hm with rfl | hm
        · exact absurd hn hs
        · exact h2 s hm hn
      · rw [if_neg hu] at h; cases h
theorem Tm.hasB_mem {zs : List Int} {x : Int} (h : Tm.hasB zs x = true) : x ∈ zs := by
  unfold Tm.hasB at h
  simpa using h
/-- A step brings no new variable. -/
theorem Tm.Step1.novar {L R t u : List Int} {a : Nat} {m : Asg} (h : Tm.Step1 L R t u a m) (hR : Tm.err R = 0) (hf : R.any (freeIn L) = false) : ∀ s ∈ u, s < 0 → s ∈ t := by
  intro s hs hn
  rw [h.goes, Tm.put_eq, List.mem_append, List.mem_append] at hs
  rcases hs with hs | hs | hs
  · exact List.mem_of_mem_take hs
  · rw [Tm.applied_fitL R (Tm.err_all hR), List.mem_flatMap] at hs
    obtain ⟨x, hx, hs⟩ := hs
    unfold Tm.found at hs
    by_cases hx0 : x < 0
    · rw [if_pos hx0] at hs
      have hfr : freeIn L x = false := by
        rw [List.any_eq_false] at hf
        simpa using hf x hx
      have hL : x ∈ L := by
        unfold freeIn at hfr
        rw [decide_eq_true hx0, Bool.true_and, Bool.not_eq_false'] at hfr
        exact Tm.hasB_mem hfr
      have hm := (Tm.fit_has L (Tm.part t a) _ 0 0 _ m rfl (by omega) (by simpa [Tm.fit] using h.fit)).2 x (by simpa using hL) hx0
      obtain ⟨z, hz⟩ := Option.isSome_iff_exists.1 hm
      rw [hz, Option.getD_some] at hs
      have := Tm.fit_in L (Tm.part t a) _ 0 0 (fun _ => none) m rfl (by omega) (fun x z h => by cases h) (by simpa [Tm.fit] using h.fit) x z hz s hs
      exact List.mem_of_mem_drop (List.mem_of_mem_take this)
    · rw [if_neg hx0] at hs
      simp at hs
      omega
  · exact List.mem_of_mem_drop hs

end Go.Proofs.Ytloealnfbpegnae

namespace Go.Proofs.Ytloealnfbpegnae
open Go.Proofs Go.RowKit Go.Shelf Go.Maps

theorem Tm.stepErr_term {rs : RuleL} {t : List Int} (h : Tm.stepErr rs t = 0) : Tm.rulesErr rs = 0 ∧ Tm.err t = 0 ∧ Tm.allE rs t t.length = 0 := by
  unfold Tm.stepErr at h
  by_cases h1 : Tm.rulesErr rs = 0
  · rw [if_pos h1] at h
    by_cases h2 : Tm.err t = 0
    · rw [if_pos h2] at h; exact ⟨h1, h2, h⟩
    · rw [if_neg h2] at h; exact absurd h h2
  · rw [if_neg h1] at h; exact absurd h h1
theorem len_no {n : Nat} (h : n ≠ 0) : ((n : Int) == 0) = false := by rw [beq_eq_false_iff_ne]; omega
theorem len_yes {n : Nat} (h : n = 0) : ((n : Int) == 0) = true := by rw [beq_iff_eq]; omega
theorem Tm.over_le (t p : List Int) : (Tm.overVal t p).length ≤ t.length := by
  unfold Tm.overVal
  split
  · have := overL_le (t := t) (p := p) (placesTo t t.length)
    rw [placesTo_length t t.length (Nat.le_refl _)] at this
    exact this
  · simp
theorem Tm.sum_le {g : Nat → Nat} {c : Nat} (h : ∀ k, g k ≤ c) : ∀ n, Tm.sum g n ≤ n * c := by
  intro n
  induction n with
  | zero => simp [Tm.sum]
  | succ n ih => simp only [Tm.sum]; rw [Nat.succ_mul]; have := h n; omega
/-- Is the sign a symbol, or among the first j of t? -/
def isB (s : Int) (t : List Int) (j : Nat) : Bool := decide (0 ≤ s) || (t.take j).any fun x => x == s
theorem isB_zero (s : Int) (t : List Int) : isB s t 0 = decide (0 ≤ s) := by simp [isB]
theorem isB_succ {s : Int} {t : List Int} {j : Nat} (h : j < t.length) : isB s t (j + 1) = (isB s t j || (t[j]?.getD 0 == s)) := by
  unfold isB
  rw [take_snoc h, List.any_append, Bool.or_assoc]
  simp
theorem isB_all {s : Int} {t : List Int} (h : s < 0 → s ∈ t) : isB s t t.length = true := by
  unfold isB
  by_cases h0 : 0 ≤ s
  · simp [h0]
  · rw [List.take_length]
    have := h (by omega)
    simp [this]
/-- All that is asked of a step. -/
theorem Tm.step_true {rk : List Int} {rs : RuleL} {t : List Int} (h1 : Tm.fallsErr rk rs = 0) (h2 : Tm.stepErr rs t = 0) {j : Nat} (hj : j < (Tm.stepVal rs t).length) :
    Tm.aboveErr rk t ((Tm.stepVal rs t)[j]?.getD (0, 0, [])).2.2 = 0 ∧ (Tm.fallsVal rk rs = true → Tm.aboveVal rk t ((Tm.stepVal rs t)[j]?.getD (0, 0, [])).2.2 = true) ∧ Tm.err ((Tm.stepVal rs t)[j]?.getD (0, 0, [])).2.2 = 0 ∧
      ∀ s ∈ ((Tm.stepVal rs t)[j]?.getD (0, 0, [])).2.2, s < 0 → s ∈ t := by
  have hr : Tm.rankErr rk = 0 := by
    unfold Tm.fallsErr at h1
    by_cases h : Tm.rankErr rk = 0
    · exact h
    · rw [if_neg h] at h1; exact absurd h1 h
  unfold Tm.stepErr at h2
  have hru : Tm.rulesErr rs = 0 := by
    by_cases h : Tm.rulesErr rs = 0
    · exact h
    · rw [if_neg h] at h2; exact absurd h2 h
  rw [if_pos hru] at h2
  have ht : Tm.err t = 0 := by
    by_cases h : Tm.err t = 0
    · exact h
    · rw [if_neg h] at h2; exact absurd h2 h
  rw [if_pos ht] at h2
  have hv : Tm.stepVal rs t = Tm.allL rs t t.length := by
    unfold Tm.stepVal Tm.stepErr
    rw [if_pos hru, if_pos ht, if_pos h2]
  rw [hv] at hj ⊢
  obtain ⟨x, hx⟩ : ∃ x, (Tm.allL rs t t.length)[j]?.getD (0, 0, []) = x := ⟨_, rfl⟩
  have hm : x ∈ Tm.allL rs t t.length := by rw [← hx, List.getElem?_eq_getElem hj, Option.getD_some]; exact List.getElem_mem hj
  rw [hx]
  obtain ⟨ha, hk, hb, hu⟩ := Tm.allL_mem _ hm
  have he := Tm.allE_all _ h2 _ ha _ hk hb
  obtain ⟨_, hall⟩ := Tm.rulesErr_ok hru
  obtain ⟨eL, eR, _, _, _, ef⟩ := Tm.ruleErr_ok (hall _ hk)
  obtain ⟨m, hs⟩ := Tm.hit_step hru ht ha hk hb he
  rw [← hu] at hs
  obtain ⟨_, _, _, eu⟩ := hs.parts eL eR ht ha
  have hae := Tm.aboveErr_of hr ht eu
  refine ⟨hae, fun hf => ?_, eu, hs.novar eR ef⟩
  refine (Tm.aboveVal_iff hae).2 (hs.below eL eR ht ha ?_)
  refine (Tm.aboveVal_iff (Tm.aboveErr_of hr eL eR)).1 ?_
  unfold Tm.fallsVal Tm.fallsErr at hf
  rw [if_pos hr, if_pos hru] at hf
  unfold Tm.fallsB at hf
  rw [List.all_eq_true] at hf
  have := hf rs[x.1] (List.getElem_mem hk)
  simpa [hk] using this
theorem Tm.step_count {rs : RuleL} {t : List Int} (h2 : Tm.stepErr rs t = 0) : (Tm.stepVal rs t).length = Tm.sum (fun k => (Tm.overVal t (rs[k]?.getD ([], [])).1).length) rs.length := by
  have h0 := h2
  unfold Tm.stepErr at h2
  have hru : Tm.rulesErr rs = 0 := by
    by_cases h : Tm.rulesErr rs = 0
    · exact h
    · rw [if_neg h] at h2; exact absurd h2 h
  rw [if_pos hru] at h2
  have ht : Tm.err t = 0 := by
    by_cases h : Tm.err t = 0
    · exact h
    · rw [if_neg h] at h2; exact absurd h2 h
  unfold Tm.stepVal
  rw [if_pos h0]
  exact Tm.steps_count hru ht

end Go.Proofs.Ytloealnfbpegnae

namespace Go.Proofs.Ytloealnfbpegnae
open Go.Proofs Go.RowKit Go.Shelf Go.Maps

/-- G1: always the first of the steps, k having been taken. -/
def Tm.fm (rs : RuleL) : Nat → List Int → Nat → List Int × Nat × Int
  | 0, _, _ => ([], 0, 2)
  | f + 1, t, k => if Tm.stepErr rs t = 0 then (match Tm.stepVal rs t with | [] => (t, k, 0) | s :: _ => Tm.fm rs f s.2.2 (k + 1)) else ([], 0, Tm.stepErr rs t)
def Tm.form (rs : RuleL) (t : List Int) : List Int × Nat × Int := Tm.fm rs 61 t 0
theorem Tm.fm_bad {rs : RuleL} {t : List Int} {f k : Nat} (h : Tm.stepErr rs t ≠ 0) : Tm.fm rs (f + 1) t k = ([], 0, Tm.stepErr rs t) := by rw [Tm.fm, if_neg h]
theorem Tm.fm_end {rs : RuleL} {t : List Int} {f k : Nat} (h : Tm.stepErr rs t = 0) (hn : (Tm.stepVal rs t).length = 0) : Tm.fm rs (f + 1) t k = (t, k, 0) := by
  rw [Tm.fm, if_pos h, List.eq_nil_of_length_eq_zero hn]
theorem Tm.fm_go {rs : RuleL} {t : List Int} {f k : Nat} (h : Tm.stepErr rs t = 0) (hn : 0 < (Tm.stepVal rs t).length) : Tm.fm rs (f + 1) t k = Tm.fm rs f ((Tm.stepVal rs t)[0]?.getD (0, 0, [])).2.2 (k + 1) := by
  rw [Tm.fm, if_pos h]
  cases hs : Tm.stepVal rs t with
  | nil => rw [hs] at hn; simp at hn
  | cons s l => rfl
theorem clone_right (zs : List Int) (a : Option Addr) (cap : Nat) (w : World) (he : Tm.err zs = 0) (hI : Ints w.heap.size w a zs) :
    Calls Try.prog 46 #[.slice a zs.length cap] w fun e w' => ∃ v, e = .returned v ∧ New w.heap.size w' v zs ∧ Below w.heap.size w w' := by
  obtain ⟨b, off, rfl, _, _⟩ := hI.at (Tm.err_pos he)
  exact clone_any zs b off cap w (Tm.err_len he) hI

set_option maxRecDepth 100000 in
set_option maxHeartbeats 2000000 in
theorem form_any (rs : RuleL) (t : List Int) (al at' : Option Addr) (cl ct : Nat) (w : World) (hR : RulesAt w.heap.size w al rs) (hT : Ints w.heap.size w at' t) (h1 : t.length ≤ ct) (h2 : ct ≤ maxLen) :
    Calls Try.prog 23 #[.slice al rs.length cl, .slice at' t.length ct] w fun e w' => ∃ v, e = .returned (.tuple #[v, .int .i64 ((Tm.form rs t).2.1 : Int), .int .i64 (Tm.form rs t).2.2]) ∧ New w.heap.size w' v (Tm.form rs t).1 ∧ Below w.heap.size w w' := by
  unfold Tm.form
  generalize hg : Tm.fm rs 61 t 0 = res
  have HR := hid hR
  clear hR
  go_enter Try.func23, Try.ntmps23
  go_wp2
  go_loopw [1, 10] (fun tv v wr => ∃ (k : Nat) (u : List Int) (a : Option Addr) (c : Nat), k ≤ 61 ∧ v = .int .i64 (k : Int) ∧ tv = .slice a u.length c ∧ Hid (Ints wr.heap.size wr a u) ∧ u.length ≤ c ∧ c ≤ maxLen ∧ Hid (Tm.fm rs (61 - k) u k = res) ∧ Below w.heap.size w wr) (fun _ v _ => 61 - (intOf v).toNat)
  case atStart => exact ⟨0, t, at', ct, by omega, rfl, rfl, hid hT, h1, h2, hid hg, Below.refl _ _⟩
  case round =>
    obtain ⟨k, u, a, c, hk, rfl, rfl, hI, hc1, hc2, hst, hB⟩ := hrel
    by_cases hlt : k < 61
    · have hlt' : (k : Int) < 61 := by omega
      have hC := hid (steps_any rs u al a cl c wr ((HR.out.below hB).mono hB.size) hI.out hc1 hc2)
      obtain ⟨f, hf⟩ : ∃ f, 61 - k = f + 1 := ⟨60 - k, by omega⟩
      rw [hf] at hst
      by_cases he : Tm.stepErr rs u = 0
      · obtain ⟨_, hu, _⟩ := Tm.stepErr_term he
        by_cases hn : (Tm.stepVal rs u).length = 0
        · have hr := hid ((Tm.fm_end (f := f) (k := k) he hn).symm.trans hst.out)
          have hCl := hid (fun W (hW : Below wr.heap.size wr W) => clone_right u a c W hu ((hI.out.below hW).mono hW.size))
          unfold StepsAns at hC
          rw [he, List.eq_nil_of_length_eq_zero hn] at hC
          clear he hn hu hst hI
          go_wp2_with (first
            | (go_at_call 24; refine hC.out.mono ?_; clear hC; rintro e w1 ⟨v1, rfl, hN1, b1⟩; obtain ⟨va, vc, rfl⟩ := hN1.slice; have HN := hid hN1; clear hN1)
            | (go_at_call 46; refine (hCl.out w1 b1).mono ?_; clear hCl; rintro e w2 ⟨v2, rfl, hN2, b2⟩; obtain ⟨xa, xc, rfl, _⟩ := New.ints hN2))
          go_ret3
          have B1 := hB.trans (b1.mono hB.size)
          rw [← hr.out]
          exact ⟨_, rfl, hN2.mono B1.size, B1.trans (b2.mono B1.size)⟩
        · have hp : 0 < (Tm.stepVal rs u).length := by omega
          have hr := hid ((Tm.fm_go (f := f) (k := k) he hp).symm.trans hst.out)
          have hle := hid (show (Tm.stepVal rs u).length ≤ 1000 by
            obtain ⟨k1, k2, k3⟩ := Tm.stepErr_term he
            have h3 := Tm.allL_le rs u u.length
            have h4 := Tm.err_len k2
            have h5 := (Tm.rulesErr_ok k1).1
            have h6 : u.length * rs.length ≤ 30 * 8 := Nat.mul_le_mul h4 h5
            unfold Tm.stepVal
            rw [if_pos he]
            omega)
          unfold StepsAns at hC
          rw [he] at hC
          have hff : f = 61 - (k + 1) := by omega
          rw [hff] at hr
          clear he hn hu hst hI hf hff
          generalize Tm.stepVal rs u = sts at *
          have hpi : (0 : Int) < (sts.length : Int) := by omega
          have hne : ((sts.length : Int) == 0) = false := len_no (by omega)
          go_wp2_with (first
            | (go_at_call 24; refine hC.out.mono ?_; clear hC; rintro e w1 ⟨v1, rfl, hN1, b1⟩; obtain ⟨g, cg, rfl, hat⟩ := hN1.at hp; obtain ⟨x0, y0, _, _, c02, i0, q0, q1⟩ := hat 0 hp; clear hat; simp only [Nat.zero_mul, Nat.zero_add] at c02; have HN := hid hN1; clear hN1; generalize (sts[0]?.getD (0, 0, [])).2.2 = u1 at *))
          go_roundw
          case rel => exact ⟨k + 1, u1, x0, y0, by omega, by go_num, rfl, hid i0, q0, q1, hid hr.out, hB.trans (b1.mono hB.size)⟩
          case measure => simp [intOf]; omega
      · have hr := hid ((Tm.fm_bad (f := f) (k := k) he).symm.trans hst.out)
        have hne : (Tm.stepErr rs u != 0) = true := by simpa using he
        unfold StepsAns at hC
        clear he hst hI
        generalize Tm.stepErr rs u = q at *
        go_wp2_with (first
          | (go_at_call 24; refine hC.out.mono ?_; clear hC; rintro e w1 ⟨v1, rfl, hN1, b1⟩; obtain ⟨va, vc, rfl⟩ := hN1.slice; clear hN1))
        go_ret3
        rw [← hr.out]
        exact ⟨_, rfl, New.nil _ _, hB.trans (b1.mono hB.size)⟩
    · obtain rfl : k = 61 := by omega
      have hr := hst.out
      rw [Nat.sub_self, Tm.fm] at hr
      have Hr := hid hr
      clear hr hst hI
      go_wp2
      go_ret3
      rw [← Hr.out]
      exact ⟨_, rfl, New.nil _ _, hB⟩

end Go.Proofs.Ytloealnfbpegnae

namespace Go.Proofs.Ytloealnfbpegnae
open Go.Proofs Go.RowKit Go.Shelf Go.Maps

end Go.Proofs.Ytloealnfbpegnae
