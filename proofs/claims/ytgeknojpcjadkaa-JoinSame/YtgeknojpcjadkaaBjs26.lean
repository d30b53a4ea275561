/-
  PLAIN MATHEMATICS: what pairs of rules are is one thing; the pairs of a group's rules. · hasplaw.pairsBegun. · PLAIN MATHEMATICS of worlds: what a term is there; what variables become, and what is put at a place, there; in whatever world all rules hold a term is what its Form is. · hasplaw.deepest, hasplaw.valued.
-/
import Derived.Test.YtgeknojpcjadkaaBjs25
import Derived.Test.YtgeknojpcjadkaaBjs16
import Derived.Test.YtgeknojpcjadkaaBjs18
import Derived.Deep.MidRow
namespace Go.Proofs.Ytgeknojpcjadkaa
open Go.Proofs Go.RowKit Go.Shelf Go.Maps

section
variable {L1 R1 L2 R2 : List Int} {pass : Nat → Bool}
theorem Tm.Laps.at {n : Nat} {l : PairL} (h : Tm.Laps L1 R1 L2 R2 pass n l) : ∀ m, m < n → ∃ l', Tm.Laps L1 R1 L2 R2 pass m l' ∧ (pass m = true ∨ (∃ val, Tm.MeetSays [(Tm.part L1 m, L2)] 0 false val) ∨ (∃ val, Tm.MeetSays [(Tm.part L1 m, L2)] 0 true val ∧ Tm.prtErr val L1 R1 (m : Int) R2 = 0)) := by
  induction h with
  | zero => intro m hm; omega
  | @pass k l h hp ih =>
    intro m hm
    by_cases e : m = k
    · subst e; exact ⟨l, h, .inl hp⟩
    · exact ih m (by omega)
  | @no k l val h hp hs ih =>
    intro m hm
    by_cases e : m = k
    · subst e; exact ⟨l, h, .inr (.inl ⟨val, hs⟩)⟩
    · exact ih m (by omega)
  | @yes k l val h hp hs he ih =>
    intro m hm
    by_cases e : m = k
    · subst e; exact ⟨l, h, .inr (.inr ⟨val, hs, he⟩)⟩
    · exact ih m (by omega)
theorem Tm.Laps.one {n : Nat} {l l' : PairL} (h : Tm.Laps L1 R1 L2 R2 pass n l) (h' : Tm.Laps L1 R1 L2 R2 pass n l') : l = l' := by
  induction h generalizing l' with
  | zero => cases h'; rfl
  | pass h hp ih =>
    cases h' with
    | pass h2 _ => exact ih h2
    | no _ hq _ => rw [hp] at hq; cases hq
    | yes _ hq _ _ => rw [hp] at hq; cases hq
  | no h hp hs ih =>
    cases h' with
    | pass _ hq => rw [hp] at hq; cases hq
    | no h2 _ _ => exact ih h2
    | yes _ _ hs2 _ => have := (hs.one hs2).2.1; cases this
  | yes h hp hs he ih =>
    cases h' with
    | pass _ hq => rw [hp] at hq; cases hq
    | no _ _ hs2 => have := (hs.one hs2).2.1; cases this
    | yes h2 _ hs2 _ =>
      obtain ⟨_, _, rfl⟩ := hs.one hs2
      rw [ih h2]
theorem Tm.LapsSays.right {l ps : PairL} {e : Int} (h : Tm.Laps L1 R1 L2 R2 pass L1.length l) (h' : Tm.LapsSays L1 R1 L2 R2 pass e ps) : e = 0 ∧ ps = l := by
  rcases h' with ⟨rfl, h2⟩ | ⟨⟨h0, m, l', hm, hl', hp, hs⟩, rfl⟩
  · exact ⟨rfl, h2.one h⟩
  · obtain ⟨_, _, q | ⟨val, q⟩ | ⟨val, q, q'⟩⟩ := h.at m hm
    · rw [hp] at q; cases q
    · rcases hs with ⟨is, v, hs⟩ | ⟨v, hs, _⟩
      · exact absurd (q.one hs).1.symm h0
      · have := (q.one hs).2.1; cases this
    · rcases hs with ⟨is, v, hs⟩ | ⟨v, hs, he⟩
      · exact absurd (q.one hs).1.symm h0
      · obtain ⟨_, _, rfl⟩ := q.one hs
        rw [q'] at he
        exact absurd he.symm h0
end
theorem Tm.OfSays.right {rs : RuleL} {a b : Nat} {l ps : PairL} {e : Int} (hr : Tm.rulesErr rs = 0) (ha : a < rs.length) (hb : b < rs.length) (h : Tm.Laps (rs[a]?.getD ([], [])).1 (rs[a]?.getD ([], [])).2 (Tm.others (rs[b]?.getD ([], [])).1) (Tm.others (rs[b]?.getD ([], [])).2) (Tm.passB (rs[a]?.getD ([], [])).1 (a : Int) (b : Int)) (rs[a]?.getD ([], [])).1.length l) (h' : Tm.OfSays rs (a : Int) (b : Int) e ps) : e = 0 ∧ ps = l := by
  rcases h' with ⟨h1, _⟩ | ⟨_, h2, _⟩ | ⟨_, a', b', _, _, ea, eb, h3⟩
  · exact absurd hr h1
  · exact absurd ⟨by omega, by omega, by omega, by omega⟩ h2
  · obtain rfl : a = a' := by omega
    obtain rfl : b = b' := by omega
    exact h3.right h

/-- Two symbols clash ahead of any variable. -/
def Tm.clash : List Int → List Int → Bool
  | s :: x, t :: y => if s < 0 ∨ t < 0 then false else if s = t then Tm.clash x y else true
  | _, _ => false
theorem Tm.clash_no (θ : Wb.Sb) : ∀ (x y : List Int), Tm.clash x y = true → Wb.App θ x ≠ Wb.App θ y := by
  intro x
  induction x with
  | nil => intro y h; simp [Tm.clash] at h
  | cons s x ih =>
    intro y h
    cases y with
    | nil => simp [Tm.clash] at h
    | cons t y =>
      rw [Tm.clash] at h
      by_cases h1 : s < 0 ∨ t < 0
      · rw [if_pos h1] at h; cases h
      · rw [if_neg h1] at h
        rw [Wb.App_cons, Wb.App_cons, if_neg (by omega), if_neg (by omega), List.singleton_append, List.singleton_append]
        by_cases e : s = t
        · rw [if_pos e] at h
          intro hh
          exact ih y h (List.cons.inj hh).2
        · intro hh
          exact e (List.cons.inj hh).1
theorem Tm.no_of {x y : List Int} (h : Tm.firstPair [(x, y)] = 0) (hc : Tm.clash x y = true) : Tm.MeetSays [(x, y)] 0 false [] :=
  .inr (.inl ⟨h, fun θ _ H => Tm.clash_no θ x y hc (H 0 (by simp)), rfl, rfl, rfl⟩)

def Tm.leastB (vs : List (List Int)) : Bool := (List.range 8).all fun i : Nat => (vs[i]?.getD []).length != 1 || decide (0 ≤ (vs[i]?.getD []).headD 0) || decide (-1 - (i : Int) ≤ (vs[i]?.getD []).headD 0)
theorem Tm.mguOf {ps : PairL} {vs : List (List Int)} (h1 : Tm.subErr vs = 0) (hs : Wb.Same ps ps.length (Tm.ofL vs)) (hl : Tm.leastB vs = true) (hm : ∀ θ, Wb.TermSb θ → Wb.Same ps ps.length θ → ∀ i : Nat, i < 8 → θ (-1 - (i : Int)) = Wb.App θ (vs[i]?.getD [])) : Wb.Mgu ps (Tm.ofL vs) := by
  have h8 := (Tm.subErr_ok h1).1
  have hi : ∀ v : Int, -8 ≤ v → v < 0 → ∃ i : Nat, i < 8 ∧ v = -1 - (i : Int) := fun v a b => ⟨(-1 - v).toNat, by omega, by omega⟩
  refine ⟨Tm.ofL_term h1, fun v a b s hs' => ?_, hs, fun θ hθ H v a b => ?_, fun v u a b e hu => ?_⟩
  · obtain ⟨i, hi8, rfl⟩ := hi v a b
    rw [Tm.ofL_at vs hi8] at hs'
    have hk := Tm.err_all (Tm.firstErr_all (Tm.subErr_ok h1).2 i (by omega))
    rw [List.all_eq_true] at hk
    exact ⟨Tm.known_ge (hk s hs'), Tm.known_lt (hk s hs')⟩
  · obtain ⟨i, hi8, rfl⟩ := hi v a b
    rw [Tm.ofL_at vs hi8]
    exact hm θ hθ H i hi8
  · obtain ⟨i, hi8, rfl⟩ := hi v a b
    rw [Tm.ofL_at vs hi8] at e
    unfold Tm.leastB at hl
    rw [List.all_eq_true] at hl
    have := hl i (List.mem_range.2 hi8)
    rw [e] at this
    simp at this
    omega
theorem Wb.split2 {θ : Wb.Sb} (hθ : Wb.TermSb θ) {a b c d : List Int} (ha : Tm.run a 1 = a.length) (hc : Tm.run c 1 = c.length) (h : Wb.App θ (4 :: (a ++ b)) = Wb.App θ (4 :: (c ++ d))) : Wb.App θ a = Wb.App θ c ∧ Wb.App θ b = Wb.App θ d := by
  rw [Wb.App_cons, Wb.App_cons, if_neg (by omega), Wb.App_append, Wb.App_append] at h
  exact Wb.split (Wb.App_run hθ a 1 ha) (Wb.App_run hθ c 1 hc) (List.cons.inj h).2
theorem Tm.yes_of {ps : PairL} {vs : List (List Int)} (h0 : Tm.firstPair ps = 0) (h1 : Tm.subErr vs = 0) (M : Wb.Mgu ps (Tm.ofL vs)) : Tm.MeetSays ps 0 true vs := by
  have h8 := (Tm.subErr_ok h1).1
  refine .inr (.inr (.inl ⟨h0, _, M, fun i hi => ?_, rfl, rfl, (Tm.sbL_ofL h8).symm⟩))
  rw [Tm.ofL_at _ hi]
  exact Tm.err_len (Tm.firstErr_all (Tm.subErr_ok h1).2 i (by omega))

def Tm.pv0 : List (List Int) := [[0], [-2], [-3], [-4], [-2], [-6], [-7], [-8]]
def Tm.pv1 : List (List Int) := [[2, -2], [-2], [-3], [-4], [-2], [-6], [-7], [-8]]
def Tm.pv2 : List (List Int) := [[4, -5, -6], [-2], [-3], [-4], [-5], [-6], [-2], [-8]]
theorem Tm.pm0 : Tm.MeetSays [([4, -1, -2], [4, 0, -5])] 0 true Tm.pv0 := by
  refine Tm.yes_of (by decide +kernel) (by decide +kernel) (Tm.mguOf (by decide +kernel) (fun j hj => ?_) (by decide +kernel) fun θ hθ H i hi => ?_)
  · obtain rfl : j = 0 := by simp at hj; omega
    decide +kernel
  · obtain ⟨e1, e2⟩ := Wb.split2 (a := [-1]) (b := [-2]) (c := [0]) (d := [-5]) hθ (by decide +kernel) (by decide +kernel) (H 0 (by simp))
    rw [Wb.App1 θ (by omega)] at e1
    rw [Wb.App1 θ (by omega), Wb.App1 θ (by omega)] at e2
    match i, hi with
    | 0, _ => exact e1
    | 1, _ => exact (Wb.App1 θ (by omega)).symm
    | 2, _ => exact (Wb.App1 θ (by omega)).symm
    | 3, _ => exact (Wb.App1 θ (by omega)).symm
    | 4, _ => exact e2.symm.trans (Wb.App1 θ (by omega)).symm
    | 5, _ => exact (Wb.App1 θ (by omega)).symm
    | 6, _ => exact (Wb.App1 θ (by omega)).symm
    | 7, _ => exact (Wb.App1 θ (by omega)).symm
theorem Tm.pm1 : Tm.MeetSays [([4, -1, -2], [4, 2, -5, -5])] 0 true Tm.pv1 := by
  refine Tm.yes_of (by decide +kernel) (by decide +kernel) (Tm.mguOf (by decide +kernel) (fun j hj => ?_) (by decide +kernel) fun θ hθ H i hi => ?_)
  · obtain rfl : j = 0 := by simp at hj; omega
    decide +kernel
  · obtain ⟨e1, e2⟩ := Wb.split2 (a := [-1]) (b := [-2]) (c := [2, -5]) (d := [-5]) hθ (by decide +kernel) (by decide +kernel) (H 0 (by simp))
    rw [Wb.App1 θ (by omega)] at e1
    rw [Wb.App1 θ (by omega), Wb.App1 θ (by omega)] at e2
    have e3 : Wb.App θ [2, -5] = Wb.App θ [2, -2] := by
      rw [Wb.App_cons θ 2 [-5], Wb.App_cons θ 2 [-2], Wb.App1 θ (by omega), Wb.App1 θ (by omega), e2]
    match i, hi with
    | 0, _ => exact e1.trans e3
    | 1, _ => exact (Wb.App1 θ (by omega)).symm
    | 2, _ => exact (Wb.App1 θ (by omega)).symm
    | 3, _ => exact (Wb.App1 θ (by omega)).symm
    | 4, _ => exact e2.symm.trans (Wb.App1 θ (by omega)).symm
    | 5, _ => exact (Wb.App1 θ (by omega)).symm
    | 6, _ => exact (Wb.App1 θ (by omega)).symm
    | 7, _ => exact (Wb.App1 θ (by omega)).symm
theorem Tm.pm2 : Tm.MeetSays [([4, -1, -2], [4, 4, -5, -6, -7])] 0 true Tm.pv2 := by
  refine Tm.yes_of (by decide +kernel) (by decide +kernel) (Tm.mguOf (by decide +kernel) (fun j hj => ?_) (by decide +kernel) fun θ hθ H i hi => ?_)
  · obtain rfl : j = 0 := by simp at hj; omega
    decide +kernel
  · obtain ⟨e1, e2⟩ := Wb.split2 (a := [-1]) (b := [-2]) (c := [4, -5, -6]) (d := [-7]) hθ (by decide +kernel) (by decide +kernel) (H 0 (by simp))
    rw [Wb.App1 θ (by omega)] at e1
    rw [Wb.App1 θ (by omega), Wb.App1 θ (by omega)] at e2
    match i, hi with
    | 0, _ => exact e1
    | 1, _ => exact (Wb.App1 θ (by omega)).symm
    | 2, _ => exact (Wb.App1 θ (by omega)).symm
    | 3, _ => exact (Wb.App1 θ (by omega)).symm
    | 4, _ => exact (Wb.App1 θ (by omega)).symm
    | 5, _ => exact (Wb.App1 θ (by omega)).symm
    | 6, _ => exact e2.symm.trans (Wb.App1 θ (by omega)).symm
    | 7, _ => exact (Wb.App1 θ (by omega)).symm

/-- A place where symbols clash, or that is passed over. -/
theorem Tm.Laps.clash {L1 R1 L2 R2 : List Int} {pass : Nat → Bool} {m : Nat} {l : PairL} (h : Tm.Laps L1 R1 L2 R2 pass m l) (hc : pass m = true ∨ (pass m = false ∧ Tm.firstPair [(Tm.part L1 m, L2)] = 0 ∧ Tm.clash (Tm.part L1 m) L2 = true)) : Tm.Laps L1 R1 L2 R2 pass (m + 1) l := by
  rcases hc with hp | ⟨hp, h1, h2⟩
  · exact .pass h hp
  · exact .no h hp (Tm.no_of h1 h2)
/-- Nothing but such places. -/
def Tm.allClash (L1 L2 : List Int) (pass : Nat → Bool) (from' upto : Nat) : Bool := (List.range (upto - from')).all fun k => pass (from' + k) || (decide (Tm.firstPair [(Tm.part L1 (from' + k), L2)] = 0) && Tm.clash (Tm.part L1 (from' + k)) L2)
theorem Tm.Laps.run {L1 R1 L2 R2 : List Int} {pass : Nat → Bool} {m : Nat} {l : PairL} (h : Tm.Laps L1 R1 L2 R2 pass m l) : ∀ n, Tm.allClash L1 L2 pass m (m + n) = true → Tm.Laps L1 R1 L2 R2 pass (m + n) l := by
  intro n
  induction n with
  | zero => intro _; exact h
  | succ n ih =>
    intro hc
    unfold Tm.allClash at hc ih
    rw [Nat.add_sub_cancel_left] at hc ih
    rw [List.range_succ, List.all_append, Bool.and_eq_true] at hc
    refine (ih hc.1).clash ?_
    have h2 := hc.2
    simp at h2
    cases hp : pass (m + n) with
    | true => exact .inl rfl
    | false =>
      rw [hp] at h2
      simp at h2
      exact .inr ⟨rfl, h2.1, h2.2⟩

/-- The pairs of two rules of a group. -/
def Tm.GrpLaps (a b : Nat) (l : PairL) : Prop := Tm.Laps (groupL[a]?.getD ([], [])).1 (groupL[a]?.getD ([], [])).2 (Tm.others (groupL[b]?.getD ([], [])).1) (Tm.others (groupL[b]?.getD ([], [])).2) (Tm.passB (groupL[a]?.getD ([], [])).1 (a : Int) (b : Int)) (groupL[a]?.getD ([], [])).1.length l
theorem Tm.grp_no (a b : Nat) (h : Tm.allClash (groupL[a]?.getD ([], [])).1 (Tm.others (groupL[b]?.getD ([], [])).1) (Tm.passB (groupL[a]?.getD ([], [])).1 (a : Int) (b : Int)) 0 (groupL[a]?.getD ([], [])).1.length = true) : Tm.GrpLaps a b [] := by
  have := Tm.Laps.run (.zero : Tm.Laps (groupL[a]?.getD ([], [])).1 (groupL[a]?.getD ([], [])).2 (Tm.others (groupL[b]?.getD ([], [])).1) (Tm.others (groupL[b]?.getD ([], [])).2) (Tm.passB (groupL[a]?.getD ([], [])).1 (a : Int) (b : Int)) 0 []) (groupL[a]?.getD ([], [])).1.length (by rw [Nat.zero_add]; exact h)
  rwa [Nat.zero_add] at this
/-- A rule that laps over the third one at place 1 alone. -/
theorem Tm.grp_yes (b : Nat) (vs : List (List Int)) (x : List Int × List Int) (hs : Tm.MeetSays [([4, -1, -2], Tm.others (groupL[b]?.getD ([], [])).1)] 0 true vs)
    (h1 : Tm.allClash [4, 4, -1, -2, -3] (Tm.others (groupL[b]?.getD ([], [])).1) (Tm.passB [4, 4, -1, -2, -3] 2 (b : Int)) 0 1 = true) (h2 : Tm.allClash [4, 4, -1, -2, -3] (Tm.others (groupL[b]?.getD ([], [])).1) (Tm.passB [4, 4, -1, -2, -3] 2 (b : Int)) 2 5 = true)
    (h3 : Tm.passB [4, 4, -1, -2, -3] 2 (b : Int) 1 = false) (h4 : Tm.prtErr vs [4, 4, -1, -2, -3] [4, -1, 4, -2, -3] 1 (Tm.others (groupL[b]?.getD ([], [])).2) = 0) (h5 : Tm.prtVal vs [4, 4, -1, -2, -3] [4, -1, 4, -2, -3] 1 (Tm.others (groupL[b]?.getD ([], [])).2) = x) : Tm.GrpLaps 2 b [x] := by
  have q1 : Tm.Laps [4, 4, -1, -2, -3] [4, -1, 4, -2, -3] (Tm.others (groupL[b]?.getD ([], [])).1) (Tm.others (groupL[b]?.getD ([], [])).2) (Tm.passB [4, 4, -1, -2, -3] 2 (b : Int)) 1 [] := Tm.Laps.run .zero 1 h1
  have q2 := Tm.Laps.yes (val := vs) q1 h3 (by rw [show Tm.part [4, 4, -1, -2, -3] 1 = [4, -1, -2] from by decide +kernel]; exact hs) h4
  have q3 := Tm.Laps.run q2 3 h2
  rw [show Tm.prtVal vs [4, 4, -1, -2, -3] [4, -1, 4, -2, -3] ((1 : Nat) : Int) (Tm.others (groupL[b]?.getD ([], [])).2) = x from h5] at q3
  exact q3
theorem Tm.grp20 : Tm.GrpLaps 2 0 [([4, -1, -2], [4, 0, 4, -1, -2])] := Tm.grp_yes 0 Tm.pv0 _ Tm.pm0 (by decide +kernel) (by decide +kernel) (by decide +kernel) (by decide +kernel) (by decide +kernel)
theorem Tm.grp21 : ∃ x, Tm.GrpLaps 2 1 [x] := ⟨_, Tm.grp_yes 1 Tm.pv1 _ Tm.pm1 (by decide +kernel) (by decide +kernel) (by decide +kernel) (by decide +kernel) rfl⟩
theorem Tm.grp22 : Tm.GrpLaps 2 2 [([4, 4, -1, 4, -2, -3, -4], [4, 4, -1, -2, 4, -3, -4])] := Tm.grp_yes 2 Tm.pv2 _ Tm.pm2 (by decide +kernel) (by decide +kernel) (by decide +kernel) (by decide +kernel) (by decide +kernel)
theorem Tm.grp_len : ∀ a b, a < 3 → b < 3 → ∃ l, Tm.GrpLaps a b l ∧ l.length = if a = 2 then 1 else 0
  | 0, 0, _, _ => ⟨[], Tm.grp_no 0 0 (by decide +kernel), rfl⟩
  | 0, 1, _, _ => ⟨[], Tm.grp_no 0 1 (by decide +kernel), rfl⟩
  | 0, 2, _, _ => ⟨[], Tm.grp_no 0 2 (by decide +kernel), rfl⟩
  | 1, 0, _, _ => ⟨[], Tm.grp_no 1 0 (by decide +kernel), rfl⟩
  | 1, 1, _, _ => ⟨[], Tm.grp_no 1 1 (by decide +kernel), rfl⟩
  | 1, 2, _, _ => ⟨[], Tm.grp_no 1 2 (by decide +kernel), rfl⟩
  | 2, 0, _, _ => ⟨_, Tm.grp20, rfl⟩
  | 2, 1, _, _ => ⟨_, Tm.grp21.choose_spec, rfl⟩
  | 2, 2, _, _ => ⟨_, Tm.grp22, rfl⟩
theorem Tm.grp_of {a b : Nat} {l ps : PairL} {e : Int} (ha : a < 3) (hb : b < 3) (h : Tm.GrpLaps a b l) (h' : Tm.OfSays groupL (a : Int) (b : Int) e ps) : e = 0 ∧ ps = l := h'.right Tm.g7 ha hb h
theorem Tm.grp_to {i j : Nat} {l : PairL} (h : Tm.AllTo groupL i j l) : i ≤ 3 → j ≤ 3 ∧ (i = 3 → j = 0) ∧ l.length = if i = 2 then j else if i = 3 then 3 else 0 := by
  induction h with
  | zero => intro _; exact ⟨by omega, fun h => by omega, rfl⟩
  | @next i j l ps h hj hs ih =>
    intro hi
    have hj3 : j < 3 := hj
    obtain ⟨q1, q2, q3⟩ := ih hi
    by_cases hi3 : i = 3
    · subst hi3
      rcases hs with ⟨h1, _⟩ | ⟨_, _, h2, _⟩ | ⟨_, a, b, ha, _, ea, _⟩
      · exact absurd Tm.g7 h1
      · omega
      · have : a < 3 := ha
        omega
    · obtain ⟨l', g1, g2⟩ := Tm.grp_len i j (by omega) hj3
      obtain ⟨_, rfl⟩ := Tm.grp_of (by omega) hj3 g1 hs
      refine ⟨by omega, fun h => absurd h hi3, ?_⟩
      rw [List.length_append, q3, g2]
      by_cases h2 : i = 2
      · rw [if_pos h2, if_pos h2, if_pos h2]
      · rw [if_neg h2, if_neg h2, if_neg h2, if_neg hi3]
  | @row i l h ih =>
    intro hi
    obtain ⟨q1, q2, q3⟩ := ih (by omega)
    refine ⟨by omega, fun _ => rfl, ?_⟩
    rw [q3]
    have hl : groupL.length = 3 := rfl
    by_cases h2 : i = 2
    · subst h2; rfl
    · rw [if_neg h2]
      by_cases h3 : i = 3
      · omega
      · rw [if_neg h3]
        by_cases h1 : i + 1 = 2
        · rw [if_pos h1]
        · rw [if_neg h1, if_neg (by omega)]
theorem Tm.grp_all {er : Int} {ps : PairL} (h : Tm.AllPSays groupL er ps) : er = 0 ∧ ps.length = 3 := by
  rcases h with ⟨l, hl, q⟩ | ⟨i, j, l, qs, hi, hj, hl, hs, h0, _⟩
  · have h3 : l.length = 3 := (Tm.grp_to (i := 3) hl (Nat.le_refl _)).2.2
    rcases q with ⟨_, rfl, rfl⟩ | ⟨q, _⟩
    · exact ⟨rfl, h3⟩
    · omega
  · have hi3 : i < 3 := hi
    have hj3 : j < 3 := hj
    obtain ⟨l', g1, _⟩ := Tm.grp_len i j hi3 hj3
    exact absurd (Tm.grp_of hi3 hj3 g1 hs).1 h0
theorem Tm.grp_out {er : Int} {ps : PairL} (h : Tm.OfSays groupL 2 3 er ps) : er = 5 ∧ ps = [] := by
  rcases h with ⟨h1, _⟩ | ⟨_, _, h2, h3⟩ | ⟨_, a, b, _, hb, _, eb, _⟩
  · exact absurd Tm.g7 h1
  · exact ⟨h2, h3⟩
  · have : b < 3 := hb
    omega

end Go.Proofs.Ytgeknojpcjadkaa

namespace Go.Proofs.Ytgeknojpcjadkaa
open Go.Proofs Go.RowKit Go.Shelf Go.Maps

theorem g_of (a b : Nat) (ha : a < 3) (hb : b < 3) (x : List Int × List Int) (h : Tm.GrpLaps a b [x]) (ar : Option Addr) (w : World) (hR : RulesAt w.heap.size w ar groupL) :
    Calls Try.prog 12 #[.slice ar 3 3, .int .i64 (a : Int), .int .i64 (b : Int)] w fun e w' => ∃ v, e = .returned (.tuple #[v, .int .i64 0]) ∧ NewP w.heap.size w' v [x] ∧ Below w.heap.size w w' := by
  refine (Of_any groupL (a : Int) (b : Int) ar 3 w hR).mono ?_
  rintro e w' ⟨er, ps, v, hs, rfl, n, B⟩
  obtain ⟨rfl, rfl⟩ := Tm.grp_of ha hb h hs
  exact ⟨v, rfl, n, B⟩
theorem g_of23 (ar : Option Addr) (w : World) (hR : RulesAt w.heap.size w ar groupL) :
    Calls Try.prog 12 #[.slice ar 3 3, .int .i64 2, .int .i64 3] w fun e w' => ∃ v, e = .returned (.tuple #[v, .int .i64 5]) ∧ NewP w.heap.size w' v [] ∧ Below w.heap.size w w' := by
  refine (Of_any groupL 2 3 ar 3 w hR).mono ?_
  rintro e w' ⟨er, ps, v, hs, rfl, n, B⟩
  obtain ⟨rfl, rfl⟩ := Tm.grp_out hs
  exact ⟨v, rfl, n, B⟩
theorem g_allP (ar : Option Addr) (w : World) (hR : RulesAt w.heap.size w ar groupL) :
    Calls Try.prog 45 #[.slice ar 3 3] w fun e w' => ∃ va vc, e = .returned (.tuple #[.slice va 3 vc, .int .i64 0]) ∧ Below w.heap.size w w' := by
  refine (AllP_any groupL ar 3 w hR (by decide)).mono ?_
  rintro e w' ⟨er, ps, v, hs, rfl, n, B⟩
  obtain ⟨rfl, h3⟩ := Tm.grp_all hs
  obtain ⟨va, vc, rfl⟩ := n.slice
  exact ⟨va, vc, by rw [h3], B⟩
/-- The one pair of a list of one. -/
theorem p_one {w : World} {v : Value} {base : Nat} {x : List Int × List Int} (h : NewP base w v [x]) : ∃ b off cap aL cL aR cR, v = .slice (some ⟨b, off, none⟩) 1 cap ∧ w.cell? ⟨b, off, none⟩ = some (.slice aL x.1.length cL) ∧ w.cell? ⟨b, off + 1, none⟩ = some (.slice aR x.2.length cR) ∧ Ints w.heap.size w aL x.1 ∧ Ints w.heap.size w aR x.2 := by
  obtain ⟨a, cap, rfl, hR, _⟩ := h.at
  obtain ⟨b, off, rfl, _, aL, cL, aR, cR, h1, h2, h3, h4, _⟩ := hR 0 (by simp)
  exact ⟨b, off, cap, aL, cL, aR, cR, rfl, by simpa using h1, by simpa using h2, h3, h4⟩

set_option maxRecDepth 100000 in
set_option maxHeartbeats 4000000 in
theorem pairsBegun_any (w : World) : Calls Try.prog 14 #[] w fun e w' => e = .returned (.bool true) ∧ Below w.heap.size w w' := by
  have h1 := hid (fun ar w hR => g_of 2 0 (by omega) (by omega) _ Tm.grp20 ar w hR)
  have h2 := hid (fun ar w hR => g_of 2 2 (by omega) (by omega) _ Tm.grp22 ar w hR)
  have s1 := hid (fun w a c hI => g_same [4, -1, -2] [4, -1, -2] 3 3 c a w rfl rfl (by simp) hI (by simp [sameB]))
  have s2 := hid (fun w a c hI => g_same [4, 0, 4, -1, -2] [4, 0, 4, -1, -2] 5 5 c a w rfl rfl (by simp) hI (by simp [sameB]))
  have s3 := hid (fun w a c hI => g_same [4, 4, -1, 4, -2, -3, -4] [4, 4, -1, 4, -2, -3, -4] 7 7 c a w rfl rfl (by simp) hI (by simp [sameB]))
  have s4 := hid (fun w a c hI => g_same [4, 4, -1, -2, 4, -3, -4] [4, 4, -1, -2, 4, -3, -4] 7 7 c a w rfl rfl (by simp) hI (by simp [sameB]))
  simp only [List.map_cons, List.map_nil] at s1 s2 s3 s4
  go_enter Try.func14, Try.ntmps14
  go_wp2_with fail
  refine (group_any _).mono ?_
  rintro e w1 ⟨a1, rfl, hg1, b1⟩
  go_wp2_with fail
  refine (h1.out a1 w1 hg1).mono ?_
  rintro e w2 ⟨v2, rfl, n2, b2⟩
  obtain ⟨x2, c2, rfl⟩ := n2.slice
  have B2 := b1.trans (b2.mono b1.size)
  clear h1 hg1 b1 b2
  go_wp2_with fail
  refine (group_any _).mono ?_
  rintro e w3 ⟨a3, rfl, hg3, b3⟩
  go_wp2_with fail
  refine (h2.out a3 w3 hg3).mono ?_
  rintro e w4 ⟨v4, rfl, n4, b4⟩
  obtain ⟨x4, c4, rfl⟩ := n4.slice
  have N4 := hid ((n2.below b3).below b4)
  have B3 := B2.trans (b3.mono B2.size)
  have B4 := B3.trans (b4.mono B3.size)
  clear h2 hg3 b3 b4 n2 B2 B3
  go_wp2_with fail
  refine (group_any _).mono ?_
  rintro e w5 ⟨a5, rfl, hg5, b5⟩
  go_wp2_with fail
  refine (g_of23 a5 w5 hg5).mono ?_
  rintro e w6 ⟨v6, rfl, n6, b6⟩
  obtain ⟨x6, c6, rfl⟩ := n6.slice
  have N6 := hid ((N4.out.below b5).below b6)
  have M6 := hid ((n4.below b5).below b6)
  have B5 := B4.trans (b5.mono B4.size)
  have B6 := B5.trans (b6.mono B5.size)
  clear hg5 b5 b6 n4 n6 N4 B4 B5
  go_wp2_with fail
  refine (group_any _).mono ?_
  rintro e w7 ⟨a7, rfl, hg7, b7⟩
  go_wp2_with fail
  refine (g_allP a7 w7 hg7).mono ?_
  rintro e w8 ⟨x8, c8, rfl, b8⟩
  have N8 := hid ((N6.out.below b7).below b8)
  have M8 := hid ((M6.out.below b7).below b8)
  have B7 := B6.trans (b7.mono B6.size)
  have B8 := B7.trans (b8.mono B7.size)
  clear hg7 b7 b8 N6 M6 B6 B7
  obtain ⟨b, off, cap, aL, cL, aR, cR, e, k0, k1, i0, i1⟩ := p_one N8.out
  cases e
  simp only [List.length_cons, List.length_nil] at k0 k1
  go_wp2_with fail
  refine (s1.out w8 aL cL i0).mono ?_
  rintro e w9 ⟨rfl, b9⟩
  have N9 := hid (N8.out.below b9)
  have M9 := hid (M8.out.below b9)
  have B9 := B8.trans (b9.mono B8.size)
  clear N8 M8 B8 b9 k0 k1 i0 i1 s1
  obtain ⟨_, _, _, aL, cL, aR, cR, e, k0, k1, i0, i1⟩ := p_one N9.out
  cases e
  simp only [List.length_cons, List.length_nil] at k0 k1
  go_wp2_with fail
  refine (s2.out w9 aR cR i1).mono ?_
  rintro e w10 ⟨rfl, b10⟩
  have M10 := hid (M9.out.below b10)
  have B10 := B9.trans (b10.mono B9.size)
  clear N9 M9 B9 b10 k0 k1 i0 i1 s2
  obtain ⟨bb, oo, cap, aL, cL, aR, cR, e, k0, k1, i0, i1⟩ := p_one M10.out
  cases e
  simp only [List.length_cons, List.length_nil] at k0 k1
  go_wp2_with fail
  refine (s3.out w10 aL cL i0).mono ?_
  rintro e w11 ⟨rfl, b11⟩
  have M11 := hid (M10.out.below b11)
  have B11 := B10.trans (b11.mono B10.size)
  clear M10 B10 b11 k0 k1 i0 i1 s3
  obtain ⟨_, _, _, aL, cL, aR, cR, e, k0, k1, i0, i1⟩ := p_one M11.out
  cases e
  simp only [List.length_cons, List.length_nil] at k0 k1
  go_wp2_with fail
  refine (s4.out w11 aR cR i1).mono ?_
  rintro e w12 ⟨rfl, b12⟩
  go_wp2
  go_ret
  exact ⟨rfl, B11.trans (b12.mono B11.size)⟩

end Go.Proofs.Ytgeknojpcjadkaa

namespace Go.Proofs.Ytgeknojpcjadkaa
open Go.Proofs Go.RowKit Go.Shelf Go.Maps

/-- What a term is, A telling what symbols are, vs what variables are; n: more than its parts' depth. -/
def Tm.vl (A : Int → Nat → Nat → Nat) (vs : Nat → Nat) : Nat → List Int → Nat
  | 0, x => if Tm.sym x < 0 then vs (-1 - Tm.sym x).toNat else A (Tm.sym x) 0 0
  | n + 1, x => if Tm.sym x < 0 then vs (-1 - Tm.sym x).toNat else A (Tm.sym x) (if 0 < Tm.room (Tm.sym x) then Tm.vl A vs n (Tm.kid x 0) else 0) (if 1 < Tm.room (Tm.sym x) then Tm.vl A vs n (Tm.kid x 1) else 0)
theorem Tm.no_kid {x : List Int} (h : x.length = 0) (m : Nat) : ¬ m < Tm.room (Tm.sym x) := fun hm => by
  have := Tm.kid_short hm
  omega
theorem Tm.vl_more {A : Int → Nat → Nat → Nat} {vs : Nat → Nat} : ∀ (n m : Nat) (x : List Int), x.length ≤ n → x.length ≤ m → Tm.vl A vs n x = Tm.vl A vs m x := by
  intro n
  induction n with
  | zero =>
    intro m x h _
    cases m with
    | zero => rfl
    | succ m => rw [Tm.vl, Tm.vl, if_neg (Tm.no_kid (by omega) 0), if_neg (Tm.no_kid (by omega) 1)]
  | succ n ih =>
    intro m x h h'
    cases m with
    | zero => rw [Tm.vl, Tm.vl, if_neg (Tm.no_kid (by omega) 0), if_neg (Tm.no_kid (by omega) 1)]
    | succ m =>
      rw [Tm.vl, Tm.vl]
      by_cases hs : Tm.sym x < 0
      · rw [if_pos hs, if_pos hs]
      · rw [if_neg hs, if_neg hs]
        have hk : ∀ i, i < Tm.room (Tm.sym x) → Tm.vl A vs n (Tm.kid x i) = Tm.vl A vs m (Tm.kid x i) := fun i hi => by
          have := Tm.kid_short hi
          exact ih m _ (by omega) (by omega)
        congr 1
        · by_cases h0 : 0 < Tm.room (Tm.sym x)
          · rw [if_pos h0, if_pos h0, hk 0 h0]
          · rw [if_neg h0, if_neg h0]
        · by_cases h0 : 1 < Tm.room (Tm.sym x)
          · rw [if_pos h0, if_pos h0, hk 1 h0]
          · rw [if_neg h0, if_neg h0]
def Tm.val (A : Int → Nat → Nat → Nat) (vs : Nat → Nat) (x : List Int) : Nat := Tm.vl A vs x.length x
theorem Tm.val_var {A : Int → Nat → Nat → Nat} {vs : Nat → Nat} {x : List Int} (h : Tm.sym x < 0) : Tm.val A vs x = vs (-1 - Tm.sym x).toNat := by
  unfold Tm.val
  cases x.length with
  | zero => rw [Tm.vl, if_pos h]
  | succ n => rw [Tm.vl, if_pos h]
theorem Tm.val_sym {A : Int → Nat → Nat → Nat} {vs : Nat → Nat} {x : List Int} (h : ¬ Tm.sym x < 0) : Tm.val A vs x = A (Tm.sym x) (if 0 < Tm.room (Tm.sym x) then Tm.val A vs (Tm.kid x 0) else 0) (if 1 < Tm.room (Tm.sym x) then Tm.val A vs (Tm.kid x 1) else 0) := by
  have e : Tm.val A vs x = Tm.vl A vs (x.length + 1) x := Tm.vl_more _ _ x (Nat.le_refl _) (by omega)
  rw [e, Tm.vl, if_neg h]
  have hk : ∀ i, i < Tm.room (Tm.sym x) → Tm.vl A vs x.length (Tm.kid x i) = Tm.val A vs (Tm.kid x i) := fun i hi => by
    have := Tm.kid_short hi
    exact Tm.vl_more _ _ _ (by omega) (Nat.le_refl _)
  congr 1
  · by_cases h0 : 0 < Tm.room (Tm.sym x)
    · rw [if_pos h0, if_pos h0, hk 0 h0]
    · rw [if_neg h0, if_neg h0]
  · by_cases h0 : 1 < Tm.room (Tm.sym x)
    · rw [if_pos h0, if_pos h0, hk 1 h0]
    · rw [if_neg h0, if_neg h0]
/-- Two terms with the same sign and parts that are the same there. -/
theorem Tm.val_same {A : Int → Nat → Nat → Nat} {vs us : Nat → Nat} {x y : List Int} (h0 : ¬ Tm.sym x < 0) (hs : Tm.sym x = Tm.sym y) (hk : ∀ m, m < Tm.room (Tm.sym x) → Tm.val A vs (Tm.kid x m) = Tm.val A us (Tm.kid y m)) : Tm.val A vs x = Tm.val A us y := by
  rw [Tm.val_sym (x := x) h0, Tm.val_sym (x := y) (vs := us) (by rw [← hs]; exact h0), ← hs]
  congr 1
  · by_cases h : 0 < Tm.room (Tm.sym x)
    · rw [if_pos h, if_pos h, hk 0 h]
    · rw [if_neg h, if_neg h]
  · by_cases h : 1 < Tm.room (Tm.sym x)
    · rw [if_pos h, if_pos h, hk 1 h]
    · rw [if_neg h, if_neg h]
theorem Tm.val_lt {A : Int → Nat → Nat → Nat} {vs : Nat → Nat} (hA : ∀ s x y, A s x y < 3) (hv : ∀ i, vs i < 3) (x : List Int) : Tm.val A vs x < 3 := by
  by_cases h : Tm.sym x < 0
  · rw [Tm.val_var h]; exact hv _
  · rw [Tm.val_sym h]; exact hA _ _ _
theorem Tm.var_only {a : List Int} (ha : Tm.err a = 0) (h : Tm.sym a < 0) : a = [Tm.sym a] := by
  have hv := Tm.view ha
  rw [Tm.room_neg h] at hv
  simpa [Tm.kids] using hv
theorem Tm.sym_known {a : List Int} (ha : Tm.err a = 0) : -8 ≤ Tm.sym a := Tm.known8 ha 0 (Tm.err_pos ha)
/-- What variables become, there. -/
theorem Tm.val_applied {A : Int → Nat → Nat → Nat} {vs : Nat → Nat} {ss : List (List Int)} (hss : Terms ss) : ∀ (n : Nat) (a : List Int), a.length < n → Tm.err a = 0 → Tm.val A vs (Tm.applied ss a) = Tm.val A (fun i => Tm.val A vs (ss[i]?.getD [])) a := by
  intro n
  induction n with
  | zero => intro a h; omega
  | succ n ih =>
    intro a hn ha
    by_cases h0 : Tm.sym a < 0
    · rw [Tm.val_var h0]
      have e : Tm.applied ss a = ss[(-1 - Tm.sym a).toNat]?.getD [] := by
        conv => lhs; rw [Tm.var_only ha h0]
        rw [Tm.applied_cons]
        unfold Tm.piece
        rw [if_pos h0]
        simp [Tm.applied]
      rw [e]
    · obtain ⟨e1, e2⟩ := Tm.applied_view hss ha (by omega)
      refine Tm.val_same (by rw [e1]; exact h0) e1 fun m hm => ?_
      rw [e1] at hm
      rw [e2 m hm]
      exact ih _ (by have := Tm.kid_short hm; omega) (Tm.kid_err ha hm)
/-- What is put at a place, there. -/
theorem Tm.val_put {A : Int → Nat → Nat → Nat} {vs : Nat → Nat} {u v : List Int} (huv : Tm.val A vs u = Tm.val A vs v) (hu : Tm.err u = 0) (hv : Tm.err v = 0) : ∀ (n : Nat) (t : List Int) (k : Nat), t.length < n → Tm.err t = 0 → k < t.length → Tm.val A vs (Tm.put t k u) = Tm.val A vs (Tm.put t k v) := by
  intro n
  induction n with
  | zero => intro t k h; omega
  | succ n ih =>
    intro t k hn ht hk
    by_cases h0 : k = 0
    · subst h0; rw [Tm.put_zero ht, Tm.put_zero ht]; exact huv
    · obtain ⟨m, hm, h1, h2⟩ := Tm.place_kid ht (by omega) hk
      obtain ⟨su, hkl, ku⟩ := Tm.put_view ht hu hm h1 h2
      obtain ⟨sv, _, kv⟩ := Tm.put_view ht hv hm h1 h2
      have hs0 : 0 ≤ Tm.sym t := Tm.Gt.pos (r := fun _ => 0) (.eq t _ m hm rfl)
      refine Tm.val_same (by rw [su]; omega) (by rw [su, sv]) fun l hl => ?_
      rw [su] at hl
      rw [ku l hl, kv l hl]
      by_cases el : l = m
      · rw [if_pos el, if_pos el]
        exact ih _ _ (by have := Tm.kid_short hm; omega) (Tm.kid_err ht hm) hkl
      · rw [if_neg el, if_neg el]
/-- Only the variables that stand there count. -/
theorem Tm.val_vars {A : Int → Nat → Nat → Nat} {vs us : Nat → Nat} {d : Nat} (hvu : ∀ i, i < d → vs i = us i) : ∀ (n : Nat) (a : List Int), a.length < n → Tm.err a = 0 → (∀ s ∈ a, s < 0 → -s ≤ (d : Int)) → Tm.val A vs a = Tm.val A us a := by
  intro n
  induction n with
  | zero => intro a h; omega
  | succ n ih =>
    intro a hn ha hd
    by_cases h0 : Tm.sym a < 0
    · rw [Tm.val_var h0, Tm.val_var h0]
      have := hd _ (Tm.sym_mem (Tm.err_pos ha)) h0
      exact hvu _ (by omega)
    · refine Tm.val_same h0 rfl fun m hm => ?_
      exact ih _ (by have := Tm.kid_short hm; omega) (Tm.kid_err ha hm) (fun s hs => hd s (List.mem_of_mem_drop (List.mem_of_mem_take hs)))
/-- A rule holds, whatever variables are. -/
def Tm.Holds (A : Int → Nat → Nat → Nat) (a b : List Int) : Prop := ∀ vs : Nat → Nat, (∀ i, vs i < 3) → Tm.val A vs a = Tm.val A vs b
theorem Tm.Step1.val {A : Int → Nat → Nat → Nat} {vs : Nat → Nat} {L R t u : List Int} {a : Nat} {m : Asg} (h : Tm.Step1 L R t u a m) (hL : Tm.err L = 0) (hR : Tm.err R = 0) (ht : Tm.err t = 0) (ha : a < t.length) (hA : ∀ s x y, A s x y < 3) (hv : ∀ i, vs i < 3) (hh : Tm.Holds A L R) : Tm.val A vs t = Tm.val A vs u := by
  obtain ⟨hs, e1, e2, _⟩ := h.parts hL hR ht ha
  have h1 : Tm.val A vs (Tm.applied (Tm.fitL m 8) L) = Tm.val A vs (Tm.applied (Tm.fitL m 8) R) := by
    rw [Tm.val_applied hs _ L (Nat.lt_succ_self _) hL, Tm.val_applied hs _ R (Nat.lt_succ_self _) hR]
    exact hh _ (fun i => Tm.val_lt hA hv _)
  have h2 := Tm.val_put h1 (by rw [e1]; exact Tm.part_err ht ha) e2 _ t a (Nat.lt_succ_self _) ht ha
  rw [e1, Tm.put_self, ← h.goes] at h2
  exact h2
/-- A step of a list of rules that all hold. -/
theorem Tm.step_val {A : Int → Nat → Nat → Nat} {vs : Nat → Nat} {rs : RuleL} {t : List Int} (hA : ∀ s x y, A s x y < 3) (hv : ∀ i, vs i < 3) (hw : ∀ k, k < rs.length → Tm.Holds A (rs[k]?.getD ([], [])).1 (rs[k]?.getD ([], [])).2) (h2 : Tm.stepErr rs t = 0) {j : Nat} (hj : j < (Tm.stepVal rs t).length) :
    Tm.val A vs t = Tm.val A vs ((Tm.stepVal rs t)[j]?.getD (0, 0, [])).2.2 := by
  obtain ⟨hru, ht, hall⟩ := Tm.stepErr_term h2
  have hvv : Tm.stepVal rs t = Tm.allL rs t t.length := by unfold Tm.stepVal; rw [if_pos h2]
  rw [hvv] at hj ⊢
  obtain ⟨x, hx⟩ : ∃ x, (Tm.allL rs t t.length)[j]?.getD (0, 0, []) = x := ⟨_, rfl⟩
  have hm : x ∈ Tm.allL rs t t.length := by rw [← hx, List.getElem?_eq_getElem hj, Option.getD_some]; exact List.getElem_mem hj
  rw [hx]
  obtain ⟨ha, hk, hb, hu⟩ := Tm.allL_mem _ hm
  have he := Tm.allE_all _ hall _ ha _ hk hb
  obtain ⟨eL, eR, _⟩ := Tm.ruleErr_ok ((Tm.rulesErr_ok hru).2 _ hk)
  obtain ⟨m, hs⟩ := Tm.hit_step hru ht ha hk hb he
  rw [← hu] at hs
  exact hs.val eL eR ht ha hA hv (hw _ hk)
theorem Tm.runs_val {A : Int → Nat → Nat → Nat} {vs : Nat → Nat} {rs : RuleL} (hA : ∀ s x y, A s x y < 3) (hv : ∀ i, vs i < 3) (hw : ∀ k, k < rs.length → Tm.Holds A (rs[k]?.getD ([], [])).1 (rs[k]?.getD ([], [])).2) {t x : List Int} {n : Nat} (h : Tm.Runs rs t n x) : Tm.val A vs t = Tm.val A vs x := by
  induction h with
  | stop _ _ => rfl
  | go h hn hr ih => exact (Tm.step_val hA hv hw h hn).trans ih

/-! Numbers in threes. -/
def asg (n x : Nat) (i : Nat) : Nat := if i < n then x / 3 ^ i % 3 else 0
theorem asg_lt (n x i : Nat) : asg n x i < 3 := by unfold asg; split <;> omega
theorem asg_all : ∀ (n : Nat) (vs : Nat → Nat), (∀ i, vs i < 3) → ∃ x, x < 3 ^ n ∧ ∀ i, i < n → asg n x i = vs i := by
  intro n
  induction n with
  | zero => intro vs _; exact ⟨0, by simp, fun i hi => by omega⟩
  | succ n ih =>
    intro vs hv
    obtain ⟨x, hx, hd⟩ := ih (fun i => vs (i + 1)) (fun i => hv _)
    have h0 := hv 0
    refine ⟨vs 0 + 3 * x, by rw [Nat.pow_succ]; omega, fun i hi => ?_⟩
    unfold asg
    rw [if_pos hi]
    cases i with
    | zero => simp only [Nat.pow_zero, Nat.div_one]; omega
    | succ i =>
      have h1 := hd i (by omega)
      unfold asg at h1
      rw [if_pos (by omega)] at h1
      rw [show 3 ^ (i + 1) = 3 * 3 ^ i by rw [Nat.pow_succ, Nat.mul_comm], ← Nat.div_div_eq_div_mul, show (vs 0 + 3 * x) / 3 = x by omega]
      exact h1
/-- Are both the same, whatever their variables are? -/
def Tm.holdsB (A : Int → Nat → Nat → Nat) (a b : List Int) (n : Nat) : Bool := decide (∀ x, x < 3 ^ n → Tm.val A (asg n x) a = Tm.val A (asg n x) b)
theorem Tm.holdsB_iff {A : Int → Nat → Nat → Nat} {a b : List Int} {n : Nat} (ha : Tm.err a = 0) (hb : Tm.err b = 0) (da : ∀ s ∈ a, s < 0 → -s ≤ (n : Int)) (db : ∀ s ∈ b, s < 0 → -s ≤ (n : Int)) : Tm.holdsB A a b n = true ↔ Tm.Holds A a b := by
  unfold Tm.holdsB
  rw [decide_eq_true_eq]
  constructor
  · intro h vs hv
    obtain ⟨x, hx, hd⟩ := asg_all n vs hv
    have h1 := h x hx
    rw [Tm.val_vars hd _ a (Nat.lt_succ_self _) ha da, Tm.val_vars hd _ b (Nat.lt_succ_self _) hb db] at h1
    exact h1
  · intro h x _
    exact h _ (asg_lt n x)

end Go.Proofs.Ytgeknojpcjadkaa

namespace Go.Proofs.Ytgeknojpcjadkaa
open Go.Proofs Go.RowKit Go.Shelf Go.Maps

def dpN (t : List Int) : Nat := t.foldl (fun n s => max n (-s).toNat) 0
theorem dpN_snoc {t : List Int} {k : Nat} (h : k < t.length) : dpN (t.take (k + 1)) = max (dpN (t.take k)) (-(t[k]?.getD 0)).toNat := by
  unfold dpN
  rw [take_snoc h, List.foldl_append]
  rfl
theorem dpN_le {t : List Int} (h : ∀ k, k < t.length → -8 ≤ t[k]?.getD 0) : ∀ k, k ≤ t.length → dpN (t.take k) ≤ 8 := by
  intro k
  induction k with
  | zero => intro _; simp [dpN]
  | succ k ih =>
    intro hk
    rw [dpN_snoc (by omega)]
    have h1 := ih (by omega)
    have h2 := h k (by omega)
    omega
theorem dpN_in {t : List Int} : ∀ k, k ≤ t.length → ∀ s ∈ t.take k, -s ≤ (dpN (t.take k) : Int) := by
  intro k
  induction k with
  | zero => intro _ s hs; simp at hs
  | succ k ih =>
    intro hk s hs
    rw [dpN_snoc (by omega)]
    rw [take_snoc (by omega), List.mem_append] at hs
    rcases hs with hs | hs
    · have := ih (by omega) s hs
      omega
    · simp only [List.mem_cons, List.not_mem_nil, or_false] at hs
      subst hs
      omega

set_option maxRecDepth 100000 in
set_option maxHeartbeats 1000000 in
theorem deepest_any (t : List Int) (a : Option Addr) (c : Nat) (w : World) (ht : Tm.err t = 0) (hI : Ints w.heap.size w a t) :
    Calls Try.prog 48 #[.slice a t.length c] w fun e w' => e = .returned (.int .i64 (dpN t : Int)) ∧ w' = w := by
  have l30 := Tm.err_len ht
  have l30' : (t.length : Int) ≤ 30 := by omega
  have k8 := hid (Tm.known8 ht)
  have k6 := hid (fun k (hk : k < t.length) => Tm.known_lt (Tm.all_at (Tm.err_all ht) hk))
  clear ht
  go_enter Try.func48, Try.ntmps48
  go_wp2
  go_loop [3, 4] (fun n i => ∃ k : Nat, k ≤ t.length ∧ i = .int .i64 (k : Int) ∧ n = .int .i64 (dpN (t.take k) : Int)) (fun _ i => t.length - (intOf i).toNat)
  case atStart => exact ⟨0, Nat.zero_le _, rfl, rfl⟩
  case round =>
    obtain ⟨k, hk, rfl, rfl⟩ := hrel
    by_cases hlt : k < t.length
    · have hlt' : (k : Int) < (t.length : Int) := by omega
      obtain ⟨b, off, rfl, hb, hc⟩ := hI.at (by omega)
      have hck := hc k hlt
      have hs1 := k8.out k hlt
      have hs2 := k6.out k hlt
      have hsn := hid (dpN_snoc hlt)
      have hdl := dpN_le k8.out k (by omega)
      clear hc
      generalize t[k]?.getD 0 = s at *
      generalize dpN (t.take k) = d at *
      have hmx : max (d : Int) (-s) = ((max d (-s).toNat : Nat) : Int) := by omega
      go_wp2
      go_round
      case rel => exact ⟨k + 1, by omega, by go_num, by rw [hsn.out, ← hmx]; go_num⟩
      case measure => simp [intOf]; omega
    · obtain rfl : k = t.length := by omega
      rw [List.take_length]
      go_wp2
      go_ret
      exact ⟨rfl, rfl⟩

end Go.Proofs.Ytgeknojpcjadkaa
