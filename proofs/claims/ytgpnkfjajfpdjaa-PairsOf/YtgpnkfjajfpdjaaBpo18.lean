/-
  PLAIN MATHEMATICS: what pairs of rules are is one thing; the pairs of a group's rules. · hasplaw.pairsBegun. · haspref.applied and haspref.plain of what may be long. · haspref.put, of what may be too large. · PLAIN MATHEMATICS of RulesTrue: which steps there are; how many; each goes to what is below, and brings no new variable. · What RulesTrue leans on: sums, and what stands in the term that a step comes to. · norm.Form, norm.Is. · hasplaw.normBegun.
-/
import Derived.Test.YtgpnkfjajfpdjaaBpo14
import Derived.Test.YtgpnkfjajfpdjaaBpo17
import Derived.Test.YtgpnkfjajfpdjaaBpo2
import Derived.Test.YtgpnkfjajfpdjaaBpo3
import Derived.Test.YtgpnkfjajfpdjaaBpo13
import Derived.Test.YtgpnkfjajfpdjaaBpo8
namespace Go.Proofs.Ytgpnkfjajfpdjaa
open Go.Proofs Go.RowKit Go.Shelf Go.Maps

section
variable {L1 R1 L2 R2 : List Int} {pass : Nat → Bool}
theorem Tm.Laps.at {n : Nat} {l : PairL} (h : Tm.Laps L1 R1 L2 R2 pass n l) : ∀ m, m < n → ∃ l', Tm.Laps L1 R1 L2 R2 pass m l' ∧ (pass m = true ∨ (∃ val, Tm.MeetSays [(Tm.part L1 m, L2)] 0 false val) ∨ (∃ val, Tm.MeetSays [(Tm.part L1 m, L2)] 0 true val ∧ Tm.prtErr val L1 R1 (m : Int) R2 = 0)) := by
  induction h with
  | zero => intro m hm; omega
  | @pass k l h hp ih =>
    intro m hm
    by_cases e : m = k
    · subst e; exact ⟨l, h, .inl hp⟩
    · exact ih m (by omega)
  | @no k l val h hp hs ih =>
    intro m hm
    by_cases e : m = k
    · subst e; exact ⟨l, h, .inr (.inl ⟨val, hs⟩)⟩
    · exact ih m (by omega)
  | @yes k l val h hp hs he ih =>
    intro m hm
    by_cases e : m = k
    · subst e; exact ⟨l, h, .inr (.inr ⟨val, hs, he⟩)⟩
    · exact ih m (by omega)
theorem Tm.Laps.one {n : Nat} {l l' : PairL} (h : Tm.Laps L1 R1 L2 R2 pass n l) (h' : Tm.Laps L1 R1 L2 R2 pass n l') : l = l' := by
  induction h generalizing l' with
  | zero => cases h'; rfl
  | pass h hp ih =>
    cases h' with
    | pass h2 _ => exact ih h2
    | no _ hq _ => rw [hp] at hq; cases hq
    | yes _ hq _ _ => rw [hp] at hq; cases hq
  | no h hp hs ih =>
    cases h' with
    | pass _ hq => rw [hp] at hq; cases hq
    | no h2 _ _ => exact ih h2
    | yes _ _ hs2 _ => have := (hs.one hs2).2.1; cases this
  | yes h hp hs he ih =>
    cases h' with
    | pass _ hq => rw [hp] at hq; cases hq
    | no _ _ hs2 => have := (hs.one hs2).2.1; cases this
    | yes h2 _ hs2 _ =>
      obtain ⟨_, _, rfl⟩ := hs.one hs2
      rw [ih h2]
theorem Tm.LapsSays.right {l ps : PairL} {e : Int} (h : Tm.Laps L1 R1 L2 R2 pass L1.length l) (h' : Tm.LapsSays L1 R1 L2 R2 pass e ps) : e = 0 ∧ ps = l := by
  rcases h' with ⟨rfl, h2⟩ | ⟨⟨h0, m, l', hm, hl', hp, hs⟩, rfl⟩
  · exact ⟨rfl, h2.one h⟩
  · obtain ⟨_, _, q | ⟨val, q⟩ | ⟨val, q, q'⟩⟩ := h.at m hm
    · rw [hp] at q; cases q
    · rcases hs with ⟨is, v, hs⟩ | ⟨v, hs, _⟩
      · exact absurd (q.one hs).1.symm h0
      · have := (q.one hs).2.1; cases this
    · rcases hs with ⟨is, v, hs⟩ | ⟨v, hs, he⟩
      · exact absurd (q.one hs).1.symm h0
      · obtain ⟨_, _, rfl⟩ := q.one hs
        rw [q'] at he
        exact absurd he.symm h0
end
theorem Tm.OfSays.right {rs : RuleL} {a b : Nat} {l ps : PairL} {e : Int} (hr : Tm.rulesErr rs = 0) (ha : a < rs.length) (hb : b < rs.length) (h : Tm.Laps (rs[a]?.getD ([], [])).1 (rs[a]?.getD ([], [])).2 (Tm.others (rs[b]?.getD ([], [])).1) (Tm.others (rs[b]?.getD ([], [])).2) (Tm.passB (rs[a]?.getD ([], [])).1 (a : Int) (b : Int)) (rs[a]?.getD ([], [])).1.length l) (h' : Tm.OfSays rs (a : Int) (b : Int) e ps) : e = 0 ∧ ps = l := by
  rcases h' with ⟨h1, _⟩ | ⟨_, h2, _⟩ | ⟨_, a', b', _, _, ea, eb, h3⟩
  · exact absurd hr h1
  · exact absurd ⟨by omega, by omega, by omega, by omega⟩ h2
  · obtain rfl : a = a' := by omega
    obtain rfl : b = b' := by omega
    exact h3.right h

/-- Two symbols clash ahead of any variable. -/
def Tm.clash : List Int → List Int → Bool
  | s :: x, t :: y => if s < 0 ∨ t < 0 then false else if s = t then Tm.clash x y else true
  | _, _ => false
theorem Tm.clash_no (θ : Wb.Sb) : ∀ (x y : List Int), Tm.clash x y = true → Wb.App θ x ≠ Wb.App θ y := by
  intro x
  induction x with
  | nil => intro y h; simp [Tm.clash] at h
  | cons s x ih =>
    intro y h
    cases y with
    | nil => simp [Tm.clash] at h
    | cons t y =>
      rw [Tm.clash] at h
      by_cases h1 : s < 0 ∨ t < 0
      · rw [if_pos h1] at h; cases h
      · rw [if_neg h1] at h
        rw [Wb.App_cons, Wb.App_cons, if_neg (by omega), if_neg (by omega), List.singleton_append, List.singleton_append]
        by_cases e : s = t
        · rw [if_pos e] at h
          intro hh
          exact ih y h (List.cons.inj hh).2
        · intro hh
          exact e (List.cons.inj hh).1
theorem Tm.no_of {x y : List Int} (h : Tm.firstPair [(x, y)] = 0) (hc : Tm.clash x y = true) : Tm.MeetSays [(x, y)] 0 false [] :=
  .inr (.inl ⟨h, fun θ _ H => Tm.clash_no θ x y hc (H 0 (by simp)), rfl, rfl, rfl⟩)

def Tm.leastB (vs : List (List Int)) : Bool := (List.range 8).all fun i : Nat => (vs[i]?.getD []).length != 1 || decide (0 ≤ (vs[i]?.getD []).headD 0) || decide (-1 - (i : Int) ≤ (vs[i]?.getD []).headD 0)
theorem Tm.mguOf {ps : PairL} {vs : List (List Int)} (h1 : Tm.subErr vs = 0) (hs : Wb.Same ps ps.length (Tm.ofL vs)) (hl : Tm.leastB vs = true) (hm : ∀ θ, Wb.TermSb θ → Wb.Same ps ps.length θ → ∀ i : Nat, i < 8 → θ (-1 - (i : Int)) = Wb.App θ (vs[i]?.getD [])) : Wb.Mgu ps (Tm.ofL vs) := by
  have h8 := (Tm.subErr_ok h1).1
  have hi : ∀ v : Int, -8 ≤ v → v < 0 → ∃ i : Nat, i < 8 ∧ v = -1 - (i : Int) := fun v a b => ⟨(-1 - v).toNat, by omega, by omega⟩
  refine ⟨Tm.ofL_term h1, fun v a b s hs' => ?_, hs, fun θ hθ H v a b => ?_, fun v u a b e hu => ?_⟩
  · obtain ⟨i, hi8, rfl⟩ := hi v a b
    rw [Tm.ofL_at vs hi8] at hs'
    have hk := Tm.err_all (Tm.firstErr_all (Tm.subErr_ok h1).2 i (by omega))
    rw [List.all_eq_true] at hk
    exact ⟨Tm.known_ge (hk s hs'), Tm.known_lt (hk s hs')⟩
  · obtain ⟨i, hi8, rfl⟩ := hi v a b
    rw [Tm.ofL_at vs hi8]
    exact hm θ hθ H i hi8
  · obtain ⟨i, hi8, rfl⟩ := hi v a b
    rw [Tm.ofL_at vs hi8] at e
    unfold Tm.leastB at hl
    rw [List.all_eq_true] at hl
    have := hl i (List.mem_range.2 hi8)
    rw [e] at this
    simp at this
    omega
theorem Wb.split2 {θ : Wb.Sb} (hθ : Wb.TermSb θ) {a b c d : List Int} (ha : Tm.run a 1 = a.length) (hc : Tm.run c 1 = c.length) (h : Wb.App θ (4 :: (a ++ b)) = Wb.App θ (4 :: (c ++ d))) : Wb.App θ a = Wb.App θ c ∧ Wb.App θ b = Wb.App θ d := by
  rw [Wb.App_cons, Wb.App_cons, if_neg (by omega), Wb.App_append, Wb.App_append] at h
  exact Wb.split (Wb.App_run hθ a 1 ha) (Wb.App_run hθ c 1 hc) (List.cons.inj h).2
theorem Tm.yes_of {ps : PairL} {vs : List (List Int)} (h0 : Tm.firstPair ps = 0) (h1 : Tm.subErr vs = 0) (M : Wb.Mgu ps (Tm.ofL vs)) : Tm.MeetSays ps 0 true vs := by
  have h8 := (Tm.subErr_ok h1).1
  refine .inr (.inr (.inl ⟨h0, _, M, fun i hi => ?_, rfl, rfl, (Tm.sbL_ofL h8).symm⟩))
  rw [Tm.ofL_at _ hi]
  exact Tm.err_len (Tm.firstErr_all (Tm.subErr_ok h1).2 i (by omega))

def Tm.pv0 : List (List Int) := [[0], [-2], [-3], [-4], [-2], [-6], [-7], [-8]]
def Tm.pv1 : List (List Int) := [[2, -2], [-2], [-3], [-4], [-2], [-6], [-7], [-8]]
def Tm.pv2 : List (List Int) := [[4, -5, -6], [-2], [-3], [-4], [-5], [-6], [-2], [-8]]
theorem Tm.pm0 : Tm.MeetSays [([4, -1, -2], [4, 0, -5])] 0 true Tm.pv0 := by
  refine Tm.yes_of (by decide +kernel) (by decide +kernel) (Tm.mguOf (by decide +kernel) (fun j hj => ?_) (by decide +kernel) fun θ hθ H i hi => ?_)
  · obtain rfl : j = 0 := by simp at hj; omega
    decide +kernel
  · obtain ⟨e1, e2⟩ := Wb.split2 (a := [-1]) (b := [-2]) (c := [0]) (d := [-5]) hθ (by decide +kernel) (by decide +kernel) (H 0 (by simp))
    rw [Wb.App1 θ (by omega)] at e1
    rw [Wb.App1 θ (by omega), Wb.App1 θ (by omega)] at e2
    match i, hi with
    | 0, _ => exact e1
    | 1, _ => exact (Wb.App1 θ (by omega)).symm
    | 2, _ => exact (Wb.App1 θ (by omega)).symm
    | 3, _ => exact (Wb.App1 θ (by omega)).symm
    | 4, _ => exact e2.symm.trans (Wb.App1 θ (by omega)).symm
    | 5, _ => exact (Wb.App1 θ (by omega)).symm
    | 6, _ => exact (Wb.App1 θ (by omega)).symm
    | 7, _ => exact (Wb.App1 θ (by omega)).symm
theorem Tm.pm1 : Tm.MeetSays [([4, -1, -2], [4, 2, -5, -5])] 0 true Tm.pv1 := by
  refine Tm.yes_of (by decide +kernel) (by decide +kernel) (Tm.mguOf (by decide +kernel) (fun j hj => ?_) (by decide +kernel) fun θ hθ H i hi => ?_)
  · obtain rfl : j = 0 := by simp at hj; omega
    decide +kernel
  · obtain ⟨e1, e2⟩ := Wb.split2 (a := [-1]) (b := [-2]) (c := [2, -5]) (d := [-5]) hθ (by decide +kernel) (by decide +kernel) (H 0 (by simp))
    rw [Wb.App1 θ (by omega)] at e1
    rw [Wb.App1 θ (by omega), Wb.App1 θ (by omega)] at e2
    have e3 : Wb.App θ [2, -5] = Wb.App θ [2, -2] := by
      rw [Wb.App_cons θ 2 [-5], Wb.App_cons θ 2 [-2], Wb.App1 θ (by omega), Wb.App1 θ (by omega), e2]
    match i, hi with
    | 0, _ => exact e1.trans e3
    | 1, _ => exact (Wb.App1 θ (by omega)).symm
    | 2, _ => exact (Wb.App1 θ (by omega)).symm
    | 3, _ => exact (Wb.App1 θ (by omega)).symm
    | 4, _ => exact e2.symm.trans (Wb.App1 θ (by omega)).symm
    | 5, _ => exact (Wb.App1 θ (by omega)).symm
    | 6, _ => exact (Wb.App1 θ (by omega)).symm
    | 7, _ => exact (Wb.App1 θ (by omega)).symm
theorem Tm.pm2 : Tm.MeetSays [([4, -1, -2], [4, 4, -5, -6, -7])] 0 true Tm.pv2 := by
  refine Tm.yes_of (by decide +kernel) (by decide +kernel) (Tm.mguOf (by decide +kernel) (fun j hj => ?_) (by decide +kernel) fun θ hθ H i hi => ?_)
  · obtain rfl : j = 0 := by simp at hj; omega
    decide +kernel
  · obtain ⟨e1, e2⟩ := Wb.split2 (a := [-1]) (b := [-2]) (c := [4, -5, -6]) (d := [-7]) hθ (by decide +kernel) (by decide +kernel) (H 0 (by simp))
    rw [Wb.App1 θ (by omega)] at e1
    rw [Wb.App1 θ (by omega), Wb.App1 θ (by omega)] at e2
    match i, hi with
    | 0, _ => exact e1
    | 1, _ => exact (Wb.App1 θ (by omega)).symm
    | 2, _ => exact (Wb.App1 θ (by omega)).symm
    | 3, _ => exact (Wb.App1 θ (by omega)).symm
    | 4, _ => exact (Wb.App1 θ (by omega)).symm
    | 5, _ => exact (Wb.App1 θ (by omega)).symm
    | 6, _ => exact e2.symm.trans (Wb.App1 θ (by omega)).symm
    | 7, _ => exact (Wb.App1 θ (by omega)).symm

/-- A place where symbols clash, or that is passed over. -/
theorem Tm.Laps.clash {L1 R1 L2 R2 : List Int} {pass : Nat → Bool} {m : Nat} {l : PairL} (h : Tm.Laps L1 R1 L2 R2 pass m l) (hc : pass m = true ∨ (pass m = false ∧ Tm.firstPair [(Tm.part L1 m, L2)] = 0 ∧ Tm.clash (Tm.part L1 m) L2 = true)) : Tm.Laps L1 R1 L2 R2 pass (m + 1) l := by
  rcases hc with hp | ⟨hp, h1, h2⟩
  · exact .pass h hp
  · exact .no h hp (Tm.no_of h1 h2)
/-- Nothing but such places. -/
def Tm.allClash (L1 L2 : List Int) (pass : Nat → Bool) (from' upto : Nat) : Bool := (List.range (upto - from')).all fun k => pass (from' + k) || (decide (Tm.firstPair [(Tm.part L1 (from' + k), L2)] = 0) && Tm.clash (Tm.part L1 (from' + k)) L2)
theorem Tm.Laps.run {L1 R1 L2 R2 : List Int} {pass : Nat → Bool} {m : Nat} {l : PairL} (h : Tm.Laps L1 R1 L2 R2 pass m l) : ∀ n, Tm.allClash L1 L2 pass m (m + n) = true → Tm.Laps L1 R1 L2 R2 pass (m + n) l := by
  intro n
  induction n with
  | zero => intro _; exact h
  | succ n ih =>
    intro hc
    unfold Tm.allClash at hc ih
    rw [Nat.add_sub_cancel_left] at hc ih
    rw [List.range_succ, List.all_append, Bool.and_eq_true] at hc
    refine (ih hc.1).clash ?_
    have h2 := hc.2
    simp at h2
    cases hp : pass (m + n) with
    | true => exact .inl rfl
    | false =>
      rw [hp] at h2
      simp at h2
      exact .inr ⟨rfl, h2.1, h2.2⟩

/-- The pairs of two rules of a group. -/
def Tm.GrpLaps (a b : Nat) (l : PairL) : Prop := Tm.Laps (groupL[a]?.getD ([], [])).1 (groupL[a]?.getD ([], [])).2 (Tm.others (groupL[b]?.getD ([], [])).1) (Tm.others (groupL[b]?.getD ([], [])).2) (Tm.passB (groupL[a]?.getD ([], [])).1 (a : Int) (b : Int)) (groupL[a]?.getD ([], [])).1.length l
theorem Tm.grp_no (a b : Nat) (h : Tm.allClash (groupL[a]?.getD ([], [])).1 (Tm.others (groupL[b]?.getD ([], [])).1) (Tm.passB (groupL[a]?.getD ([], [])).1 (a : Int) (b : Int)) 0 (groupL[a]?.getD ([], [])).1.length = true) : Tm.GrpLaps a b [] := by
  have := Tm.Laps.run (.zero : Tm.Laps (groupL[a]?.getD ([], [])).1 (groupL[a]?.getD ([], [])).2 (Tm.others (groupL[b]?.getD ([], [])).1) (Tm.others (groupL[b]?.getD ([], [])).2) (Tm.passB (groupL[a]?.getD ([], [])).1 (a : Int) (b : Int)) 0 []) (groupL[a]?.getD ([], [])).1.length (by rw [Nat.zero_add]; exact h)
  rwa [Nat.zero_add] at this
/-- A rule that laps over the third one at place 1 alone. -/
theorem Tm.grp_yes (b : Nat) (vs : List (List Int)) (x : List Int × List Int) (hs : Tm.MeetSays [([4, -1, -2], Tm.others (groupL[b]?.getD ([], [])).1)] 0 true vs)
    (h1 : Tm.allClash [4, 4, -1, -2, -3] (Tm.others (groupL[b]?.getD ([], [])).1) (Tm.passB [4, 4, -1, -2, -3] 2 (b : Int)) 0 1 = true) (h2 : Tm.allClash [4, 4, -1, -2, -3] (Tm.others (groupL[b]?.getD ([], [])).1) (Tm.passB [4, 4, -1, -2, -3] 2 (b : Int)) 2 5 = true)
    (h3 : Tm.passB [4, 4, -1, -2, -3] 2 (b : Int) 1 = false) (h4 : Tm.prtErr vs [4, 4, -1, -2, -3] [4, -1, 4, -2, -3] 1 (Tm.others (groupL[b]?.getD ([], [])).2) = 0) (h5 : Tm.prtVal vs [4, 4, -1, -2, -3] [4, -1, 4, -2, -3] 1 (Tm.others (groupL[b]?.getD ([], [])).2) = x) : Tm.GrpLaps 2 b [x] := by
  have q1 : Tm.Laps [4, 4, -1, -2, -3] [4, -1, 4, -2, -3] (Tm.others (groupL[b]?.getD ([], [])).1) (Tm.others (groupL[b]?.getD ([], [])).2) (Tm.passB [4, 4, -1, -2, -3] 2 (b : Int)) 1 [] := Tm.Laps.run .zero 1 h1
  have q2 := Tm.Laps.yes (val := vs) q1 h3 (by rw [show Tm.part [4, 4, -1, -2, -3] 1 = [4, -1, -2] from by decide +kernel]; exact hs) h4
  have q3 := Tm.Laps.run q2 3 h2
  rw [show Tm.prtVal vs [4, 4, -1, -2, -3] [4, -1, 4, -2, -3] ((1 : Nat) : Int) (Tm.others (groupL[b]?.getD ([], [])).2) = x from h5] at q3
  exact q3
theorem Tm.grp20 : Tm.GrpLaps 2 0 [([4, -1, -2], [4, 0, 4, -1, -2])] := Tm.grp_yes 0 Tm.pv0 _ Tm.pm0 (by decide +kernel) (by decide +kernel) (by decide +kernel) (by decide +kernel) (by decide +kernel)
theorem Tm.grp21 : ∃ x, Tm.GrpLaps 2 1 [x] := ⟨_, Tm.grp_yes 1 Tm.pv1 _ Tm.pm1 (by decide +kernel) (by decide +kernel) (by decide +kernel) (by decide +kernel) rfl⟩
theorem Tm.grp22 : Tm.GrpLaps 2 2 [([4, 4, -1, 4, -2, -3, -4], [4, 4, -1, -2, 4, -3, -4])] := Tm.grp_yes 2 Tm.pv2 _ Tm.pm2 (by decide +kernel) (by decide +kernel) (by decide +kernel) (by decide +kernel) (by decide +kernel)
theorem Tm.grp_len : ∀ a b, a < 3 → b < 3 → ∃ l, Tm.GrpLaps a b l ∧ l.length = if a = 2 then 1 else 0
  | 0, 0, _, _ => ⟨[], Tm.grp_no 0 0 (by decide +kernel), rfl⟩
  | 0, 1, _, _ => ⟨[], Tm.grp_no 0 1 (by decide +kernel), rfl⟩
  | 0, 2, _, _ => ⟨[], Tm.grp_no 0 2 (by decide +kernel), rfl⟩
  | 1, 0, _, _ => ⟨[], Tm.grp_no 1 0 (by decide +kernel), rfl⟩
  | 1, 1, _, _ => ⟨[], Tm.grp_no 1 1 (by decide +kernel), rfl⟩
  | 1, 2, _, _ => ⟨[], Tm.grp_no 1 2 (by decide +kernel), rfl⟩
  | 2, 0, _, _ => ⟨_, Tm.grp20, rfl⟩
  | 2, 1, _, _ => ⟨_, Tm.grp21.choose_spec, rfl⟩
  | 2, 2, _, _ => ⟨_, Tm.grp22, rfl⟩
theorem Tm.grp_of {a b : Nat} {l ps : PairL} {e : Int} (ha : a < 3) (hb : b < 3) (h : Tm.GrpLaps a b l) (h' : Tm.OfSays groupL (a : Int) (b : Int) e ps) : e = 0 ∧ ps = l := h'.right Tm.g7 ha hb h
theorem Tm.grp_to {i j : Nat} {l : PairL} (h : Tm.AllTo groupL i j l) : i ≤ 3 → j ≤ 3 ∧ (i = 3 → j = 0) ∧ l.length = if i = 2 then j else if i = 3 then 3 else 0 := by
  induction h with
  | zero => intro _; exact ⟨by omega, fun h => by omega, rfl⟩
  | @next i j l ps h hj hs ih =>
    intro hi
    have hj3 : j < 3 := hj
    obtain ⟨q1, q2, q3⟩ := ih hi
    by_cases hi3 : i = 3
    · subst hi3
      rcases hs with ⟨h1, _⟩ | ⟨_, _, h2, _⟩ | ⟨_, a, b, ha, _, ea, _⟩
      · exact absurd Tm.g7 h1
      · omega
      · have : a < 3 := ha
        omega
    · obtain ⟨l', g1, g2⟩ := Tm.grp_len i j (by omega) hj3
      obtain ⟨_, rfl⟩ := Tm.grp_of (by omega) hj3 g1 hs
      refine ⟨by omega, fun h => absurd h hi3, ?_⟩
      rw [List.length_append, q3, g2]
      by_cases h2 : i = 2
      · rw [if_pos h2, if_pos h2, if_pos h2]
      · rw [if_neg h2, if_neg h2, if_neg h2, if_neg hi3]
  | @row i l h ih =>
    intro hi
    obtain ⟨q1, q2, q3⟩ := ih (by omega)
    refine ⟨by omega, fun _ => rfl, ?_⟩
    rw [q3]
    have hl : groupL.length = 3 := rfl
    by_cases h2 : i = 2
    · subst h2; rfl
    · rw [if_neg h2]
      by_cases h3 : i = 3
      · omega
      · rw [if_neg h3]
        by_cases h1 : i + 1 = 2
        · rw [if_pos h1]
        · rw [if_neg h1, if_neg (by omega)]
theorem Tm.grp_all {er : Int} {ps : PairL} (h : Tm.AllPSays groupL er ps) : er = 0 ∧ ps.length = 3 := by
  rcases h with ⟨l, hl, q⟩ | ⟨i, j, l, qs, hi, hj, hl, hs, h0, _⟩
  · have h3 : l.length = 3 := (Tm.grp_to (i := 3) hl (Nat.le_refl _)).2.2
    rcases q with ⟨_, rfl, rfl⟩ | ⟨q, _⟩
    · exact ⟨rfl, h3⟩
    · omega
  · have hi3 : i < 3 := hi
    have hj3 : j < 3 := hj
    obtain ⟨l', g1, _⟩ := Tm.grp_len i j hi3 hj3
    exact absurd (Tm.grp_of hi3 hj3 g1 hs).1 h0
theorem Tm.grp_out {er : Int} {ps : PairL} (h : Tm.OfSays groupL 2 3 er ps) : er = 5 ∧ ps = [] := by
  rcases h with ⟨h1, _⟩ | ⟨_, _, h2, h3⟩ | ⟨_, a, b, _, hb, _, eb, _⟩
  · exact absurd Tm.g7 h1
  · exact ⟨h2, h3⟩
  · have : b < 3 := hb
    omega

end Go.Proofs.Ytgpnkfjajfpdjaa

namespace Go.Proofs.Ytgpnkfjajfpdjaa
open Go.Proofs Go.RowKit Go.Shelf Go.Maps

theorem g_of (a b : Nat) (ha : a < 3) (hb : b < 3) (x : List Int × List Int) (h : Tm.GrpLaps a b [x]) (ar : Option Addr) (w : World) (hR : RulesAt w.heap.size w ar groupL) :
    Calls Try.prog 13 #[.slice ar 3 3, .int .i64 (a : Int), .int .i64 (b : Int)] w fun e w' => ∃ v, e = .returned (.tuple #[v, .int .i64 0]) ∧ NewP w.heap.size w' v [x] ∧ Below w.heap.size w w' := by
  refine (Of_any groupL (a : Int) (b : Int) ar 3 w hR).mono ?_
  rintro e w' ⟨er, ps, v, hs, rfl, n, B⟩
  obtain ⟨rfl, rfl⟩ := Tm.grp_of ha hb h hs
  exact ⟨v, rfl, n, B⟩
theorem g_of23 (ar : Option Addr) (w : World) (hR : RulesAt w.heap.size w ar groupL) :
    Calls Try.prog 13 #[.slice ar 3 3, .int .i64 2, .int .i64 3] w fun e w' => ∃ v, e = .returned (.tuple #[v, .int .i64 5]) ∧ NewP w.heap.size w' v [] ∧ Below w.heap.size w w' := by
  refine (Of_any groupL 2 3 ar 3 w hR).mono ?_
  rintro e w' ⟨er, ps, v, hs, rfl, n, B⟩
  obtain ⟨rfl, rfl⟩ := Tm.grp_out hs
  exact ⟨v, rfl, n, B⟩
theorem g_allP (ar : Option Addr) (w : World) (hR : RulesAt w.heap.size w ar groupL) :
    Calls Try.prog 17 #[.slice ar 3 3] w fun e w' => ∃ va vc, e = .returned (.tuple #[.slice va 3 vc, .int .i64 0]) ∧ Below w.heap.size w w' := by
  refine (AllP_any groupL ar 3 w hR (by decide)).mono ?_
  rintro e w' ⟨er, ps, v, hs, rfl, n, B⟩
  obtain ⟨rfl, h3⟩ := Tm.grp_all hs
  obtain ⟨va, vc, rfl⟩ := n.slice
  exact ⟨va, vc, by rw [h3], B⟩
/-- The one pair of a list of one. -/
theorem p_one {w : World} {v : Value} {base : Nat} {x : List Int × List Int} (h : NewP base w v [x]) : ∃ b off cap aL cL aR cR, v = .slice (some ⟨b, off, none⟩) 1 cap ∧ w.cell? ⟨b, off, none⟩ = some (.slice aL x.1.length cL) ∧ w.cell? ⟨b, off + 1, none⟩ = some (.slice aR x.2.length cR) ∧ Ints w.heap.size w aL x.1 ∧ Ints w.heap.size w aR x.2 := by
  obtain ⟨a, cap, rfl, hR, _⟩ := h.at
  obtain ⟨b, off, rfl, _, aL, cL, aR, cR, h1, h2, h3, h4, _⟩ := hR 0 (by simp)
  exact ⟨b, off, cap, aL, cL, aR, cR, rfl, by simpa using h1, by simpa using h2, h3, h4⟩

set_option maxRecDepth 100000 in
set_option maxHeartbeats 4000000 in
theorem pairsBegun_any (w : World) : Calls Try.prog 15 #[] w fun e w' => e = .returned (.bool true) ∧ Below w.heap.size w w' := by
  have h1 := hid (fun ar w hR => g_of 2 0 (by omega) (by omega) _ Tm.grp20 ar w hR)
  have h2 := hid (fun ar w hR => g_of 2 2 (by omega) (by omega) _ Tm.grp22 ar w hR)
  have s1 := hid (fun w a c hI => g_same [4, -1, -2] [4, -1, -2] 3 3 c a w rfl rfl (by simp) hI (by simp [sameB]))
  have s2 := hid (fun w a c hI => g_same [4, 0, 4, -1, -2] [4, 0, 4, -1, -2] 5 5 c a w rfl rfl (by simp) hI (by simp [sameB]))
  have s3 := hid (fun w a c hI => g_same [4, 4, -1, 4, -2, -3, -4] [4, 4, -1, 4, -2, -3, -4] 7 7 c a w rfl rfl (by simp) hI (by simp [sameB]))
  have s4 := hid (fun w a c hI => g_same [4, 4, -1, -2, 4, -3, -4] [4, 4, -1, -2, 4, -3, -4] 7 7 c a w rfl rfl (by simp) hI (by simp [sameB]))
  simp only [List.map_cons, List.map_nil] at s1 s2 s3 s4
  go_enter Try.func15, Try.ntmps15
  go_wp2_with fail
  refine (group_any _).mono ?_
  rintro e w1 ⟨a1, rfl, hg1, b1⟩
  go_wp2_with fail
  refine (h1.out a1 w1 hg1).mono ?_
  rintro e w2 ⟨v2, rfl, n2, b2⟩
  obtain ⟨x2, c2, rfl⟩ := n2.slice
  have B2 := b1.trans (b2.mono b1.size)
  clear h1 hg1 b1 b2
  go_wp2_with fail
  refine (group_any _).mono ?_
  rintro e w3 ⟨a3, rfl, hg3, b3⟩
  go_wp2_with fail
  refine (h2.out a3 w3 hg3).mono ?_
  rintro e w4 ⟨v4, rfl, n4, b4⟩
  obtain ⟨x4, c4, rfl⟩ := n4.slice
  have N4 := hid ((n2.below b3).below b4)
  have B3 := B2.trans (b3.mono B2.size)
  have B4 := B3.trans (b4.mono B3.size)
  clear h2 hg3 b3 b4 n2 B2 B3
  go_wp2_with fail
  refine (group_any _).mono ?_
  rintro e w5 ⟨a5, rfl, hg5, b5⟩
  go_wp2_with fail
  refine (g_of23 a5 w5 hg5).mono ?_
  rintro e w6 ⟨v6, rfl, n6, b6⟩
  obtain ⟨x6, c6, rfl⟩ := n6.slice
  have N6 := hid ((N4.out.below b5).below b6)
  have M6 := hid ((n4.below b5).below b6)
  have B5 := B4.trans (b5.mono B4.size)
  have B6 := B5.trans (b6.mono B5.size)
  clear hg5 b5 b6 n4 n6 N4 B4 B5
  go_wp2_with fail
  refine (group_any _).mono ?_
  rintro e w7 ⟨a7, rfl, hg7, b7⟩
  go_wp2_with fail
  refine (g_allP a7 w7 hg7).mono ?_
  rintro e w8 ⟨x8, c8, rfl, b8⟩
  have N8 := hid ((N6.out.below b7).below b8)
  have M8 := hid ((M6.out.below b7).below b8)
  have B7 := B6.trans (b7.mono B6.size)
  have B8 := B7.trans (b8.mono B7.size)
  clear hg7 b7 b8 N6 M6 B6 B7
  obtain ⟨b, off, cap, aL, cL, aR, cR, e, k0, k1, i0, i1⟩ := p_one N8.out
  cases e
  simp only [List.length_cons, List.length_nil] at k0 k1
  go_wp2_with fail
  refine (s1.out w8 aL cL i0).mono ?_
  rintro e w9 ⟨rfl, b9⟩
  have N9 := hid (N8.out.below b9)
  have M9 := hid (M8.out.below b9)
  have B9 := B8.trans (b9.mono B8.size)
  clear N8 M8 B8 b9 k0 k1 i0 i1 s1
  obtain ⟨_, _, _, aL, cL, aR, cR, e, k0, k1, i0, i1⟩ := p_one N9.out
  cases e
  simp only [List.length_cons, List.length_nil] at k0 k1
  go_wp2_with fail
  refine (s2.out w9 aR cR i1).mono ?_
  rintro e w10 ⟨rfl, b10⟩
  have M10 := hid (M9.out.below b10)
  have B10 := B9.trans (b10.mono B9.size)
  clear N9 M9 B9 b10 k0 k1 i0 i1 s2
  obtain ⟨bb, oo, cap, aL, cL, aR, cR, e, k0, k1, i0, i1⟩ := p_one M10.out
  cases e
  simp only [List.length_cons, List.length_nil] at k0 k1
  go_wp2_with fail
  refine (s3.out w10 aL cL i0).mono ?_
  rintro e w11 ⟨rfl, b11⟩
  have M11 := hid (M10.out.below b11)
  have B11 := B10.trans (b11.mono B10.size)
  clear M10 B10 b11 k0 k1 i0 i1 s3
  obtain ⟨_, _, _, aL, cL, aR, cR, e, k0, k1, i0, i1⟩ := p_one M11.out
  cases e
  simp only [List.length_cons, List.length_nil] at k0 k1
  go_wp2_with fail
  refine (s4.out w11 aR cR i1).mono ?_
  rintro e w12 ⟨rfl, b12⟩
  go_wp2
  go_ret
  exact ⟨rfl, B11.trans (b12.mono B11.size)⟩

end Go.Proofs.Ytgpnkfjajfpdjaa

namespace Go.Proofs.Ytgpnkfjajfpdjaa
open Go.Proofs Go.RowKit Go.Shelf Go.Maps

set_option maxRecDepth 100000 in
set_option maxHeartbeats 1000000 in
/-- haspref.applied, of what may be long. -/
theorem applied_long (ss : List (List Int)) (hl : ss.length = 8) (hsh : Short ss) (a : Option Addr) (cap : Nat) (t : List Int) (at' : Option Addr) (ct : Nat) (ht : t.length ≤ 100) (h8 : ∀ k, k < t.length → -8 ≤ t[k]?.getD 0) (w : World)
    (hS : Subs w.heap.size w a ss) (hT : Ints w.heap.size w at' t) :
    Calls Try.prog 68 #[.slice a 8 cap, .slice at' t.length ct] w fun e w' => ∃ v, e = .returned v ∧ New w.heap.size w' v (Tm.applied ss t) ∧ Below w.heap.size w w' := by
  have hlen : (t.length : Int) ≤ 100 := by omega
  obtain ⟨bs, os, rfl, hbs, hcs⟩ := hS.at (by omega)
  have Hcs := hid hcs
  have HT := hid hT
  have H8 := hid h8
  have Hl := hid hl
  clear hcs hS hT h8 hl
  go_enter Try.func68, Try.ntmps68
  go_wp2
  go_loopw [5, 6] (fun v i wr => ∃ k : Nat, k ≤ t.length ∧ i = .int .i64 (k : Int) ∧ New w.heap.size wr v (Tm.applied ss (t.take k)) ∧ Below w.heap.size w wr) (fun _ i _ => t.length - (intOf i).toNat)
  case atStart => exact ⟨0, Nat.zero_le _, rfl, New.nil _ _, Below.refl _ _⟩
  case round =>
    obtain ⟨k, hk, rfl, hN, hBr⟩ := hrel
    by_cases hlt : k < t.length
    · have hlt' : (k : Int) < (t.length : Int) := by omega
      obtain ⟨b, off, rfl, hb, hc⟩ := HT.out.at (by omega)
      have hck := (hBr.cell (p := ⟨b, off + k, none⟩) hb).trans (hc k hlt)
      have hsn := hid (Tm.applied_snoc ss hlt)
      have hle := Tm.applied_le hsh (t.take k)
      rw [List.length_take] at hle
      have hpl := Tm.piece_le hsh (t[k]?.getD 0)
      have hs8 := H8.out k hlt
      clear hc
      obtain ⟨a0, c0, rfl, _⟩ := New.ints hN
      by_cases hneg : t[k]?.getD 0 < 0
      · obtain ⟨j, hj⟩ : ∃ j : Nat, t[k]?.getD 0 = -1 - (j : Int) := ⟨(-1 - (t[k]?.getD 0)).toNat, by omega⟩
        have hj8 : (j : Int) < 8 := by omega
        obtain ⟨aj, cj, hcj0, hIj0, h1, h2, h3⟩ := Hcs.out j (by rw [Hl.out]; omega)
        have hcj := (hBr.cell (p := ⟨bs, os + j, none⟩) hbs).trans hcj0
        have hIj := (hIj0.below hBr).mono hBr.size
        have hpc : Tm.piece ss (t[k]?.getD 0) = ss[j]?.getD [] := by
          rw [hj]
          unfold Tm.piece
          rw [if_pos (by omega)]
          congr 2
          omega
        rw [hpc] at hsn hpl
        rw [hj] at hck
        have H3 : Hid (aj = none → (ss[j]?.getD []).length = 0 ∧ cj = 0) := fun e => ⟨by have := h3 e; omega, h3 e⟩
        clear hcj0 hIj0 hpc hj hneg hs8 h3 h1 h2
        generalize ss[j]?.getD [] = pc at *
        generalize Tm.applied ss (t.take k) = xs at *
        have hn1 : (-1 - (j : Int)) < 0 := by omega
        have hn2 : -(-1 - (j : Int)) - 1 = (j : Int) := by omega
        go_wp2_with (at_builtin; go_loud (refine wp_append_ints _ rfl _ _ rfl w.heap.size _ xs rfl hN aj pc cj rfl H3.out hIj (by omega) hBr.size ?_); intro v' w2 hN2 hB3; obtain ⟨a2, c2, rfl, _⟩ := New.ints hN2)
        go_roundw
        case rel => exact ⟨k + 1, by omega, by go_num, by rw [hsn.out]; simpa using hN2, hBr.trans hB3⟩
        case measure => simp [intOf]; omega
      · have hpc : Tm.piece ss (t[k]?.getD 0) = [t[k]?.getD 0] := by unfold Tm.piece; rw [if_neg hneg]
        rw [hpc] at hsn
        clear hpc hpl hs8
        generalize t[k]?.getD 0 = s at *
        generalize Tm.applied ss (t.take k) = xs at *
        have h1 := ints_lit wr [s] _ rfl
        simp only [List.map_cons, List.map_nil] at h1
        have hA : Below wr.heap.size wr (wr.alloc (.cells #[.int .i64 s] 3)) := (Below.refl _ _).alloc (Nat.le_refl _) _
        have hNA := New.below hN hA
        have hBA := hBr.trans (hA.mono hBr.size)
        go_wp2_with (at_builtin; go_loud (refine wp_append_ints _ rfl _ _ rfl w.heap.size _ xs rfl hNA (some ⟨wr.heap.size, 0, none⟩) [s] 1 rfl (fun e => by cases e) (by simpa using h1) (by simp; omega) hBA.size ?_); intro v' w2 hN2 hB3; obtain ⟨a2, c2, rfl, _⟩ := New.ints hN2)
        go_roundw
        case rel => exact ⟨k + 1, by omega, by go_num, by rw [hsn.out]; simpa using hN2, hBA.trans hB3⟩
        case measure => simp [intOf]; omega
    · obtain rfl : k = t.length := by omega
      rw [List.take_length] at hN
      obtain ⟨a2, c2, rfl, _⟩ := New.ints hN
      go_wp2
      go_ret
      exact ⟨_, rfl, hN, hBr⟩


set_option maxRecDepth 100000 in
set_option maxHeartbeats 2000000 in
/-- haspref.plain, of what may be long. -/
theorem refplain_long (t : List Int) (at' : Option Addr) (ct : Nat) (w : World) (ht : t.length ≤ 100) (h0 : 0 < t.length) (h8 : ∀ k, k < t.length → -8 ≤ t[k]?.getD 0) (hT : Ints w.heap.size w at' t) :
    Calls Try.prog 70 #[.slice at' t.length ct] w fun e w' => ∃ v, e = .returned v ∧ New w.heap.size w' v (Tm.plain t) ∧ Below w.heap.size w w' := by
  have hlen : (t.length : Int) ≤ 100 := by omega
  obtain ⟨b, off, rfl, hb, hc⟩ := hT.at h0
  have hl : New w.heap.size (w.alloc (.cells #[] 3)) (.slice (some ⟨w.heap.size, 0, none⟩) 0 0) [] := New.lit w.heap.size w [] (Nat.le_refl _) (by unfold maxLen; simp)
  have hB0 : Below w.heap.size w (w.alloc (.cells #[] 3)) := (Below.refl _ _).alloc (Nat.le_refl _) _
  have HT := hid hT
  have Hc := hid hc
  have H8 := hid h8
  clear hT hc h8
  go_enter Try.func70, Try.ntmps70
  go_wp2_with (at_builtin; go_loud (refine wp_append_ints _ rfl (.tmp 8) (.tmp 9) rfl w.heap.size _ [] rfl hl _ t ct rfl (fun e => by cases e) ((HT.out.below hB0).mono hB0.size) (by simp; omega) hB0.size ?_); intro v1 W1 hN1 hB1; obtain ⟨g, c, rfl, _⟩ := New.at0 hN1 (by simpa using h0))
  have hB2 := hB0.trans hB1
  clear hB0 hB1 hl
  simp only [List.nil_append] at *
  have hgl := hN1.own_lt.2
  have hB2s := hB2.size
  go_loopw [3, 5] (fun vs i wr => ∃ k : Nat, k ≤ t.length ∧ i = .int .i64 (k : Int) ∧ Hid (PlainSt w W1 t g t.length c k vs wr)) (fun _ i _ => t.length - (intOf i).toNat)
  case atStart => exact ⟨0, Nat.zero_le _, rfl, New.nil _ _, by rw [Tm.half_zero]; exact hN1, hB2, Nat.le_refl _⟩
  case round =>
    clear hN1 hB2
    obtain ⟨k, hk, rfl, hP⟩ := hrel
    by_cases hlt : k < t.length
    · have hlt' : (k : Int) < (t.length : Int) := by omega
      have hck := (hP.out.2.2.1.cell (p := ⟨b, off + k, none⟩) hb).trans (Hc.out k hlt)
      by_cases hneg : t[k]?.getD 0 < 0
      · have hsl := Tm.seen_len (t.take k) []
        rw [List.length_take] at hsl
        simp only [List.length_nil, Nat.zero_add] at hsl
        have hnd := hid (Tm.seen_nodup (t.take k) [] List.nodup_nil)
        have hse := hid (Tm.seen_succ [] hlt)
        have hnm : Hid (Tm.name (Tm.seenFrom [] (t.take k)) (t[k]?.getD 0) = -1 - (Tm.idx (Tm.seenFrom [] (t.take k)) (t[k]?.getD 0) : Int)) := by
          show _ = _
          unfold Tm.name
          rw [if_pos hneg]
        have hst : Hid (∀ (vs' : Value) (w' : World) (x : Int), New W1.heap.size w' vs' (Tm.seenFrom [] (t.take (k + 1))) → New w.heap.size w' (.slice (some ⟨g, 0, none⟩) t.length c) (Tm.half t k) → Below w.heap.size w w' → W1.heap.size ≤ w'.heap.size →
            x = Tm.name (Tm.seenFrom [] (t.take k)) (t[k]?.getD 0) → PlainSt w W1 t g t.length c (k + 1) vs' (w'.setCell ⟨g, k, none⟩ (.int .i64 x))) :=
          fun vs' w' x a1 a2 a3 a4 a5 => PlainSt.store hgl rfl hlt a1 a2 a3 a4 x a5
        obtain ⟨p1, p2, p3, p4⟩ := hP.out
        have Hhl : Hid ((Tm.half t k).length = t.length) := Tm.half_length hk
        clear hP
        generalize Tm.name (Tm.seenFrom [] (t.take k)) (t[k]?.getD 0) = nm at *
        generalize Tm.seenFrom [] (t.take (k + 1)) = seen' at *
        generalize Tm.seenFrom [] (t.take k) = seen at *
        generalize Tm.half t k = hf at *
        generalize t[k]?.getD 0 = s at *
        obtain ⟨az, cs, rfl, hIs, hcs, _⟩ := New.ints p1
        have HIs := hid hIs
        have hsl' : (seen.length : Int) ≤ 100 := by omega
        clear hIs hcs
        go_wp2
        go_loopw [6, 7] (fun q i wq => ∃ (m d : Nat), m ≤ seen.length ∧ i = .int .i64 (m : Int) ∧ wq = wr.drewN d ∧ ((q = .int .i64 (-1) ∧ Hid (∀ j, j < m → seen[j]?.getD 0 ≠ s)) ∨ ∃ j : Nat, j < m ∧ q = .int .i64 (j : Int) ∧ Hid (seen[j]?.getD 0 = s))) (fun _ i _ => seen.length - (intOf i).toNat)
        case atStart => exact ⟨0, 0, Nat.zero_le _, rfl, rfl, .inl ⟨rfl, fun j hj => by omega⟩⟩
        case round =>
          obtain ⟨m, d, hm, rfl, rfl, hq⟩ := hrel
          by_cases hml : m < seen.length
          · have hml' : (m : Int) < (seen.length : Int) := by omega
            obtain ⟨gs, os, rfl, hbs, hcs⟩ := HIs.out.at (by omega)
            have hcm := hcs m hml
            have hnn := hid (show seen[m]?.getD 0 ≠ s → (∀ j, j < m → seen[j]?.getD 0 ≠ s) → ∀ j, j < m + 1 → seen[j]?.getD 0 ≠ s from fun e1 e2 j hj => by
              by_cases e : j = m
              · subst e; exact e1
              · exact e2 j (by omega))
            clear hcs
            obtain ⟨y, hy⟩ : ∃ y, seen[m]?.getD 0 = y := ⟨_, rfl⟩
            rw [hy] at hcm
            have Hy := hid hy
            clear hy
            by_cases he : y = s
            · have hn : (y == s) = true := by simp [he]
              have hyy' : Hid (seen[m]?.getD 0 = s) := Hy.out.trans he
              clear he hnn hq
              go_wp2
              go_quiet (fail)
              go_wp2
              go_roundw
              case rel => exact ⟨m + 1, _, by omega, by go_num, rfl, .inr ⟨m, by omega, rfl, hyy'⟩⟩
              case measure => simp [intOf]; omega
            · have hn : (y == s) = false := by simp [he]
              have hnn' : Hid ((∀ j, j < m → seen[j]?.getD 0 ≠ s) → ∀ j, j < m + 1 → seen[j]?.getD 0 ≠ s) := hnn.out (by rw [Hy.out]; exact he)
              clear he hnn
              rcases hq with ⟨rfl, hno⟩ | ⟨j, hj, rfl, hyes⟩
              · go_wp2
                go_quiet (fail)
                go_wp2
                go_roundw
                case rel => exact ⟨m + 1, _, by omega, by go_num, rfl, .inl ⟨rfl, hnn'.out hno.out⟩⟩
                case measure => simp [intOf]; omega
              · go_wp2
                go_quiet (fail)
                go_wp2
                go_roundw
                case rel => exact ⟨m + 1, _, by omega, by go_num, rfl, .inr ⟨j, by omega, rfl, hyes⟩⟩
                case measure => simp [intOf]; omega
          · obtain rfl : m = seen.length := by omega
            have q1 := New.drewN p1 d
            have q2 := New.drewN p2 d
            have q3 := below_drewN p3 d
            have q4 : W1.heap.size ≤ (wr.drewN d).heap.size := p4
            obtain ⟨g', c', e', hcg, hfg⟩ := New.at0 q2 (by rw [Hhl.out]; exact h0)
            have hgc := hcg k (by rw [Hhl.out]; exact hlt)
            have hfk := hfg k
            have e'' : g = g' := by simp only [Value.slice.injEq, Option.some.injEq, Addr.mk.injEq] at e'; exact e'.1.1
            subst e''
            have hckd : (wr.drewN d).cell? ⟨b, off + k, none⟩ = some (.int .i64 s) := hck
            clear hcg hfg e' hck p1 p2 p3 p4
            generalize hx : hf[k]?.getD 0 = x0 at *
            clear hx
            generalize wr.drewN d = W2 at *
            rcases hq with ⟨rfl, hno⟩ | ⟨j, hj, rfl, hyes⟩
            · have hnot := Tm.has_not hno.out
              have hnew := hid (Tm.see_new hneg hnot)
              have hnm' : Hid (nm = -1 - (seen.length : Int)) := by
                show _ = _
                rw [hnm.out, Tm.idx_new hnot]
              have hse' := hid (hse.out.trans hnew.out)
              have hA : Below W2.heap.size W2 (W2.alloc (.cells #[.int .i64 s] 3)) := (Below.refl _ _).alloc (Nat.le_refl _) _
              have Hq1 := hid (q1.alloc (.cells #[.int .i64 s] 3))
              have hq2A := q2.alloc (.cells #[.int .i64 s] 3)
              have hq3A := q3.trans (hA.mono q3.size)
              have hq4A : W1.heap.size ≤ (W2.alloc (.cells #[.int .i64 s] 3)).heap.size := by simp; omega
              have Hcn := hid (cell_new W2 (.int .i64 s) 3 W2.heap.size rfl)
              clear hnot hnew hno hnd q1 q2 q3 hgc hfk
              go_wp2_with (at_builtin; go_loud (refine wp_append_int1 _ rfl _ _ rfl W1.heap.size _ seen rfl Hq1.out W2.heap.size s rfl Hcn.out (by omega) hq4A ?_); intro v' w5 hN5 hg5 hB5; have r2 : New w.heap.size w5 (.slice (some ⟨g, 0, none⟩) t.length c) hf := World.ownsRow.kept hq2A hg5 (.inr (fun e => by have := (World.ownsRow.lt Hq1.out g e.symm).1; omega)); obtain ⟨g', c', e', hcg, hfg⟩ := New.at0 r2 (by rw [Hhl.out]; exact h0); have hgc := hcg k (by rw [Hhl.out]; exact hlt); have hfk := hfg k; have e'' : g = g' := (by simp only [Value.slice.injEq, Option.some.injEq, Addr.mk.injEq] at e'; exact e'.1.1); subst e''; clear hcg hfg e'; obtain ⟨a5, c5, rfl, _⟩ := New.ints hN5)
              go_roundw
              case rel => exact ⟨k + 1, by omega, by go_num, hst.out _ _ _ (by rw [hse'.out]; simpa using hN5) r2 (hq3A.trans (hB5.mono (by have := hB2s; omega))) (Nat.le_trans hq4A hB5.size) hnm'.out.symm⟩
              case measure => simp [intOf]; omega
            · have hidx := Tm.idx_at hnd.out hj hyes.out
              have hold := hid (Tm.see_old (Tm.has_at hj hyes.out))
              have hnm' : Hid (nm = -1 - (j : Int)) := by
                show _ = _
                rw [hnm.out, hidx]
              have hse' := hid (hse.out.trans hold.out)
              have hj30 : (j : Int) ≤ 100 := by omega
              have hjn : ¬ (j : Int) < 0 := by omega
              clear hidx hold hyes hnd
              go_wp2
              go_roundw
              case rel => exact ⟨k + 1, by omega, by go_num, hst.out _ _ _ (by rw [hse'.out]; exact q1) q2 q3 q4 hnm'.out.symm⟩
              case measure => simp [intOf]; omega
      · have hP' := hid (hP.out.same hlt (by omega))
        clear hP
        generalize t[k]?.getD 0 = s at *
        go_wp2
        go_roundw
        case rel => exact ⟨k + 1, by omega, by go_num, hP'.out⟩
        case measure => simp [intOf]; omega
    · obtain rfl : k = t.length := by omega
      obtain ⟨_, p2, p3, _⟩ := hP.out
      rw [Tm.half_all] at p2
      clear hP
      go_wp2
      go_ret
      exact ⟨_, rfl, p2, p3⟩

end Go.Proofs.Ytgpnkfjajfpdjaa

namespace Go.Proofs.Ytgpnkfjajfpdjaa
open Go.Proofs Go.RowKit Go.Shelf

end Go.Proofs.Ytgpnkfjajfpdjaa

namespace Go.Proofs.Ytgpnkfjajfpdjaa
open Go.Proofs Go.RowKit Go.Shelf Go.Maps

/-! How many. -/
def Tm.cnt (f : Nat → Bool) : Nat → Nat
  | 0 => 0
  | n + 1 => Tm.cnt f n + (if f n = true then 1 else 0)
def Tm.sum (g : Nat → Nat) : Nat → Nat
  | 0 => 0
  | n + 1 => Tm.sum g n + g n
/-! What a step is. -/
/-- A step of a right term by a rule that is right. -/
structure Tm.Step1 (L R t u : List Int) (a : Nat) (m : Asg) : Prop where
  fit : Tm.fit L (Tm.part t a) = some m
  goes : u = Tm.put t a (Tm.applied (Tm.fitL m 8) R)
  small : u.length ≤ 30
theorem Tm.put_self (t : List Int) (a : Nat) : Tm.put t a (Tm.part t a) = t := by rw [Tm.put_eq]; exact (Tm.split t a).symm
theorem Tm.Step1.parts {L R t u : List Int} {a : Nat} {m : Asg} (h : Tm.Step1 L R t u a m) (hL : Tm.err L = 0) (hR : Tm.err R = 0) (ht : Tm.err t = 0) (ha : a < t.length) :
    Terms (Tm.fitL m 8) ∧ Tm.applied (Tm.fitL m 8) L = Tm.part t a ∧ Tm.err (Tm.applied (Tm.fitL m 8) R) = 0 ∧ Tm.err u = 0 := by
  have hs := Terms.of (Tm.subErr_fitL hL (Tm.part_err ht ha) h.fit)
  have hl := h.small
  have hle := Tm.applied_put_le (t := t) (u := Tm.applied (Tm.fitL m 8) R) (a := a)
  rw [← h.goes] at hle
  have hu := Tm.err_applied hs hR (by omega)
  refine ⟨hs, Tm.fit_makes hL (Tm.part_err ht ha) h.fit, hu, ?_⟩
  rw [h.goes]
  exact Tm.put_err ht hu ha (by rw [← h.goes]; exact hl)
/-- Of a rule that falls the step goes to what is below. -/
theorem Tm.Step1.below {r : Int → Int} {L R t u : List Int} {a : Nat} {m : Asg} (h : Tm.Step1 L R t u a m) (hL : Tm.err L = 0) (hR : Tm.err R = 0) (ht : Tm.err t = 0) (ha : a < t.length) (hg : Tm.Gt r L R) : Tm.Gt r t u := by
  obtain ⟨hs, e1, e2, _⟩ := h.parts hL hR ht ha
  have h1 := Tm.Gt.stays hs hg hL hR
  have h2 := Tm.Gt.within h1 (by rw [e1]; exact Tm.part_err ht ha) e2 _ t a (Nat.lt_succ_self _) ht ha
  rw [e1, Tm.put_self, ← h.goes] at h2
  exact h2
end Go.Proofs.Ytgpnkfjajfpdjaa

namespace Go.Proofs.Ytgpnkfjajfpdjaa
open Go.Proofs Go.RowKit Go.Shelf Go.Maps

/-- Is the sign a symbol, or among the first j of t? -/
def isB (s : Int) (t : List Int) (j : Nat) : Bool := decide (0 ≤ s) || (t.take j).any fun x => x == s
end Go.Proofs.Ytgpnkfjajfpdjaa

namespace Go.Proofs.Ytgpnkfjajfpdjaa
open Go.Proofs Go.RowKit Go.Shelf Go.Maps

/-- G1: always the first of the steps, k having been taken. -/
def Tm.fm (rs : RuleL) : Nat → List Int → Nat → List Int × Nat × Int
  | 0, _, _ => ([], 0, 2)
  | f + 1, t, k => if Tm.stepErr rs t = 0 then (match Tm.stepVal rs t with | [] => (t, k, 0) | s :: _ => Tm.fm rs f s.2.2 (k + 1)) else ([], 0, Tm.stepErr rs t)
def Tm.form (rs : RuleL) (t : List Int) : List Int × Nat × Int := Tm.fm rs 61 t 0
/-- Is. -/
def Tm.isForm (rs : RuleL) (t : List Int) : Bool := decide (Tm.stepErr rs t = 0) && decide ((Tm.stepVal rs t).length = 0)
end Go.Proofs.Ytgpnkfjajfpdjaa

namespace Go.Proofs.Ytgpnkfjajfpdjaa
open Go.Proofs Go.RowKit Go.Shelf Go.Maps

theorem Tm.n1 : Tm.form groupL [4, 4, 0, 1, 0] = ([4, 1, 0], 2, 0) := by decide +kernel
theorem Tm.n2 : Tm.isForm groupL [4, 1, 0] = true := by decide +kernel
theorem Tm.n3 : Tm.stepErr groupL [4, 1, 0] = 0 := by decide +kernel
theorem Tm.n4 : Tm.form [([2, -1], [2, -1])] [4, -1, 2, 0] = ([], 0, 2) := by decide +kernel
theorem Tm.n5 : Tm.form [([2, -1], [2, 2, -1])] [4, -1, 2, 0] = ([], 0, 2) := by decide +kernel

end Go.Proofs.Ytgpnkfjajfpdjaa
