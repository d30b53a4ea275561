/-
  PLAIN MATHEMATICS: the rules at a run's end: all that laps over meets; both of each pair that was handed in are linked. · PLAIN MATHEMATICS OF JoinTrue AND JoinSame: whatever steps are taken, the form is one; what has one form has one form whatever variables become. · PLAIN MATHEMATICS: J3: the rules that Run tells fall, all their pairs meet, both of each pair that was handed in have one form.
-/
import Derived.Test.YtgeknojpcjadkaaBct31
namespace Go.Proofs.Ytgeknojpcjadkaa
open Go.Proofs Go.RowKit Go.Shelf

/-- The pairs of one rule and itself, of two. -/
def Tm.OfSelf (S : List Int × List Int → Prop) (x : List Int × List Int) : Prop := ∃ ps, Tm.LapsSays x.1 x.2 (Tm.others x.1) (Tm.others x.2) (Tm.passB x.1 0 0) 0 ps ∧ ∀ p ∈ ps, S p
def Tm.OfTwo (S : List Int × List Int → Prop) (x y : List Int × List Int) : Prop := ∃ ps, Tm.LapsSays x.1 x.2 (Tm.others y.1) (Tm.others y.2) (Tm.passB x.1 0 1) 0 ps ∧ ∀ p ∈ ps, S p
def Tm.OfAll (S : List Int × List Int → Prop) (rs : RuleL) : Prop := (∀ x ∈ rs, Tm.OfSelf S x) ∧ rs.Pairwise fun x y => Tm.OfTwo S x y ∧ Tm.OfTwo S y x
theorem Tm.passB_eq (L : List Int) {i j : Int} (h : i = j) : Tm.passB L i j = Tm.passB L 0 0 := by
  subst h
  funext m
  unfold Tm.passB
  simp
theorem Tm.passB_ne (L : List Int) {i j : Int} (h : i ≠ j) : Tm.passB L i j = Tm.passB L 0 1 := by
  funext m
  unfold Tm.passB
  simp [h]
theorem Tm.of_laps {rs : RuleL} {a b : Nat} {ps : PairL} (h : Tm.OfSays rs (a : Int) (b : Int) 0 ps) : Tm.LapsSays (rs[a]?.getD ([], [])).1 (rs[a]?.getD ([], [])).2 (Tm.others (rs[b]?.getD ([], [])).1) (Tm.others (rs[b]?.getD ([], [])).2) (Tm.passB (rs[a]?.getD ([], [])).1 (a : Int) (b : Int)) 0 ps := by
  rcases h with ⟨h1, h2, _⟩ | ⟨_, _, h2, _⟩ | ⟨_, a', b', _, _, ea, eb, h⟩
  · exact absurd h2.symm h1
  · exact absurd h2 (by decide)
  · obtain rfl : a = a' := by omega
    obtain rfl : b = b' := by omega
    exact h
theorem Tm.laps_of {rs : RuleL} {a b : Nat} {ps : PairL} (hr : Tm.rulesErr rs = 0) (ha : a < rs.length) (hb : b < rs.length) (h : Tm.LapsSays (rs[a]?.getD ([], [])).1 (rs[a]?.getD ([], [])).2 (Tm.others (rs[b]?.getD ([], [])).1) (Tm.others (rs[b]?.getD ([], [])).2) (Tm.passB (rs[a]?.getD ([], [])).1 (a : Int) (b : Int)) 0 ps) : Tm.OfSays rs (a : Int) (b : Int) 0 ps :=
  .inr (.inr ⟨hr, a, b, ha, hb, rfl, rfl, h⟩)
theorem Tm.ofAll_at {S : List Int × List Int → Prop} {rs : RuleL} (hr : Tm.rulesErr rs = 0) (h : Tm.OfAll S rs) : ∀ a b, a < rs.length → b < rs.length → ∃ ps, Tm.OfSays rs (a : Int) (b : Int) 0 ps ∧ ∀ p ∈ ps, S p := by
  intro a b ha hb
  have ga : rs[a]?.getD ([], []) = rs[a] := by rw [List.getElem?_eq_getElem ha]; rfl
  have gb : rs[b]?.getD ([], []) = rs[b] := by rw [List.getElem?_eq_getElem hb]; rfl
  have hpw := List.pairwise_iff_getElem.1 h.2
  by_cases e : a = b
  · subst e
    obtain ⟨ps, h1, h2⟩ := h.1 _ (List.getElem_mem ha)
    refine ⟨ps, Tm.laps_of hr ha ha ?_, h2⟩
    rw [ga, Tm.passB_eq _ rfl]
    exact h1
  · have key : Tm.OfTwo S rs[a] rs[b] := by
      rcases Nat.lt_or_ge a b with hl | hl
      · exact (hpw a b ha hb hl).1
      · exact (hpw b a hb ha (by omega)).2
    obtain ⟨ps, h1, h2⟩ := key
    refine ⟨ps, Tm.laps_of hr ha hb ?_, h2⟩
    rw [ga, gb, Tm.passB_ne _ (by omega)]
    exact h1
theorem Tm.way_of {rs : RuleL} {ws : List (Nat × Nat)} {q : PairL} (h : Tm.LastSays rs ws 0 q) {a b : Nat} (hm : (a, b) ∈ ws) : ∃ ps, Tm.OfSays rs (a : Int) (b : Int) 0 ps ∧ ∀ p ∈ ps, p ∈ q := by
  rcases h with ⟨_, f, h1, rfl⟩ | ⟨h, _⟩
  · obtain ⟨j, hj, e⟩ := List.getElem_of_mem hm
    have := h1 j hj
    rw [List.getElem?_eq_getElem hj, e] at this
    exact ⟨f j, this, fun p hp => List.mem_flatten.2 ⟨f j, List.mem_map.2 ⟨j, List.mem_range.2 hj, rfl⟩, hp⟩⟩
  · exact absurd rfl h
theorem Tm.way_last (n : Nat) : (n, n) ∈ Tm.ways n := by unfold Tm.ways; simp
theorem Tm.way_with {n k : Nat} (h : k < n) : (k, n) ∈ Tm.ways n ∧ (n, k) ∈ Tm.ways n := by
  unfold Tm.ways Tm.waysTo
  constructor
  · exact List.mem_append.2 (.inl (List.mem_flatMap.2 ⟨k, List.mem_range.2 h, by simp⟩))
  · exact List.mem_append.2 (.inl (List.mem_flatMap.2 ⟨k, List.mem_range.2 h, by simp⟩))
/-- A turn, forwards. -/
theorem Tm.turn_ofAll {S : List Int × List Int → Prop} {rk : List Int} {rs : RuleL} {ps : PairL} {rs' : RuleL} {ps' : PairL} (h : Tm.TurnSays rk rs ps 0 rs' ps') (hS : ∀ x ∈ ps', S x) (hi : Tm.OfAll S rs) : Tm.OfAll S rs' := by
  rcases h with ⟨h, h', _⟩ | ⟨h0, p, l, rfl, h⟩
  · exact absurd h'.symm h
  rcases h with ⟨h, h', _⟩ | ⟨_, _, _, rfl, rfl⟩ | ⟨_, _, h, h', _⟩ | ⟨_, _, _, hw⟩
  · exact absurd h'.symm h
  · exact hi
  · exact absurd h'.symm h
  · generalize (Tm.dir rk (Tm.form rs p.1).1 (Tm.form rs p.2).1).2.1 = L at hw
    generalize (Tm.dir rk (Tm.form rs p.1).1 (Tm.form rs p.2).1).2.2 = R at hw
    rcases hw with ⟨_, h, _⟩ | ⟨_, e, q, hl, h⟩
    · exact absurd h (by decide)
    · rcases h with ⟨h, h', _⟩ | ⟨_, _, h, _⟩ | ⟨rfl, _, _, rfl, rfl⟩
      · exact absurd h'.symm h
      · exact absurd h (by decide)
      · have hq : ∀ x ∈ q, S x := fun x hx => hS x (List.mem_append.2 (.inr hx))
        have gl : (Tm.stays L rs ++ [(L, R)])[(Tm.stays L rs).length]?.getD ([], []) = (L, R) := by simp
        have gk : ∀ k (hk : k < (Tm.stays L rs).length), (Tm.stays L rs ++ [(L, R)])[k]?.getD ([], []) = (Tm.stays L rs)[k] := fun k hk => by
          rw [List.getElem?_append_left hk, List.getElem?_eq_getElem hk]
          rfl
        refine ⟨fun x hx => ?_, List.pairwise_append.2 ⟨?_, by simp, fun x hx y hy => ?_⟩⟩
        · rcases List.mem_append.1 hx with hx | hx
          · exact hi.1 x ((Tm.stay_or x).2 (.inl hx))
          · rw [List.mem_singleton] at hx
            subst hx
            obtain ⟨ps, h1, h2⟩ := Tm.way_of hl (Tm.way_last _)
            have h3 := Tm.of_laps h1
            rw [gl, Tm.passB_eq _ rfl] at h3
            exact ⟨ps, h3, fun p hp => hq p (h2 p hp)⟩
        · exact List.Pairwise.filter _ hi.2
        · rw [List.mem_singleton] at hy
          subst hy
          obtain ⟨k, hk, rfl⟩ := List.getElem_of_mem hx
          obtain ⟨m1, m2⟩ := Tm.way_with hk
          obtain ⟨ps, h1, h2⟩ := Tm.way_of hl m1
          obtain ⟨ps', g1, g2⟩ := Tm.way_of hl m2
          have h3 := Tm.of_laps h1
          have g3 := Tm.of_laps g1
          rw [gl, gk k hk, Tm.passB_ne _ (by omega)] at h3
          rw [gl, gk k hk, Tm.passB_ne _ (by omega)] at g3
          exact ⟨⟨ps, h3, fun p hp => hq p (h2 p hp)⟩, ⟨ps', g3, fun p hp => hq p (g2 p hp)⟩⟩
theorem Tr.run_all {Rn : List (Tr × Tr)} {rk : List Int} {ps : PairL} : ∀ (k : Nat) (rs : RuleL) (qs : PairL), Tm.RunTo rk ps k rs qs → Tr.Kept (Tm.rankOf rk) Rn rs → (∀ x ∈ qs, Tr.Held (Tm.rankOf rk) Rn x.1 x.2) →
    (∀ x ∈ ps, Tr.Held (Tm.rankOf rk) Rn x.1 x.2) ∧ Tm.OfAll (fun x => Tr.Held (Tm.rankOf rk) Rn x.1 x.2) rs := by
  intro k
  induction k with
  | zero =>
    rintro rs qs ⟨rfl, rfl⟩ _ hq
    exact ⟨hq, fun x hx => by simp at hx, List.Pairwise.nil⟩
  | succ k ih =>
    rintro rs qs ⟨rs0, qs0, h1, _, h3⟩ hk hq
    obtain ⟨hk0, hq0⟩ := Tr.turn_kept h3 hk hq
    obtain ⟨g1, g2⟩ := ih rs0 qs0 h1 hk0 hq0
    exact ⟨g1, Tm.turn_ofAll h3 hq g2⟩
theorem Tr.kept_self {r : Int → Int} {rs : RuleL} {Rn : List (Tr × Tr)} (hR : Tr.Rules rs Rn) (hg : ∀ p ∈ Rn, Tr.G r p.1 p.2) : Tr.Kept r Rn rs := by
  intro Rs hRs s t hs hst
  have h : Tr.St Rn s t := by
    obtain ⟨C, a, b, f, hm, hf, rfl, rfl⟩ := hst.cx
    have ho := hRs.2 _ hm
    exact (Tr.St.root a b f (hR.mem ho.1 ho.2 (hRs.back hm)) hf).fill C
  exact .down _ _ _ (.self hs) h (.refl _ ⟨h.ok hR.2 hs, .inr (h.down hR.2 hg hs)⟩)
/-- THE RULES THAT RUN TELLS. -/
theorem Tr.run_meets {rk : List Int} {ps : PairL} {rs : RuleL} {n : Nat} (h : Tm.RunSays rk ps 0 rs n) : ∃ Rn, Tr.Rules rs Rn ∧ (∀ p ∈ Rn, Tr.G (Tm.rankOf rk) p.1 p.2) ∧ Tr.LapMeet Rn ∧ (∀ x ∈ ps, Tr.Held (Tm.rankOf rk) Rn x.1 x.2) ∧ Tm.OfAll (fun x => Tr.Held (Tm.rankOf rk) Rn x.1 x.2) rs := by
  obtain ⟨w1, w2⟩ := Tm.run_falls h
  obtain ⟨hr, _⟩ := Tm.falls_each w1 w2
  obtain ⟨Rn, hR⟩ := Tr.Rules.err hr
  have hg := hR.down w1 w2
  obtain ⟨B, hB⟩ := low_of rk
  have h0 : ∀ s, 0 ≤ s → B ≤ Tm.rankOf rk s := fun s _ => hB _
  rcases h with ⟨h, h', _⟩ | ⟨_, k, rs0, qs, _, hto, h⟩
  · exact absurd h'.symm h
  · rcases h with ⟨rfl, _, rfl, _⟩ | ⟨_, _, h, _⟩ | ⟨_, _, h, _⟩
    · obtain ⟨g1, g2⟩ := Tr.run_all k _ _ hto (Tr.kept_self hR hg) (fun x hx => by simp at hx)
      refine ⟨Rn, hR, hg, ?_, g1, g2⟩
      refine Tr.lap_below h0 hR.2 hg ?_
      intro l1 r1 l2 r2 m1 m2 C u f g q1 q2 q3 q4 q5
      have o1 := hR.2 _ m1
      have okp : (l1.sub f).ok := Tr.sub_ok q3 o1.1
      have st1 : Tr.St Rn (l1.sub f) (r1.sub f) := .root l1 r1 f m1 q3
      have st2 : Tr.St Rn (l1.sub f) ((C.sub f).fill (r2.sub g)) := by
        rw [← q1, Cx.fill_sub, q5]
        exact (Tr.St.root l2 r2 g m2 q4).fill _
      have ok1 := st1.ok hR.2 okp
      have ok2 := st2.ok hR.2 okp
      have lt1 := st1.down hR.2 hg okp
      have lt2 := st2.down hR.2 hg okp
      rcases Tr.lap_pair (S := fun x => Tr.Held (Tm.rankOf rk) Rn x.1 x.2) hR hr (Tm.ofAll_at hr g2) l1 r1 l2 r2 m1 m2 C u f g q1 q2 q3 q4 q5 with e | ⟨P, Q, x, y, hh, hS, x1, y1, x2, y2, oh, e1, e2⟩
      · rw [← e]
        exact .refl _ ⟨ok1, lt1⟩
      · have hc := hS x y x1 y1 x2 y2 .hole hh oh (by show (x.sub hh).ok; rw [e1]; exact ok2) (by show (y.sub hh).ok; rw [e2]; exact ok1)
        simp only [Cx.fill] at hc
        rw [e1, e2] at hc
        refine hc.symm.mono fun t ht => ?_
        rcases ht with ⟨ot, rfl | ht⟩ | ⟨ot, rfl | ht⟩
        · exact ⟨ot, lt2⟩
        · exact ⟨ot, lt2.trans ht⟩
        · exact ⟨ot, lt1⟩
        · exact ⟨ot, lt1.trans ht⟩
    · exact absurd h (by decide)
    · exact absurd rfl h

end Go.Proofs.Ytgeknojpcjadkaa

namespace Go.Proofs.Ytgeknojpcjadkaa
open Go.Proofs Go.RowKit Go.Shelf

end Go.Proofs.Ytgeknojpcjadkaa

namespace Go.Proofs.Ytgeknojpcjadkaa
open Go.Proofs Go.RowKit Go.Shelf

theorem Tr.sub_leaf (x : Tr) : x.sub (fun s => .leaf s) = x := by
  induction x with
  | leaf s => rw [Tr.sub]; split <;> rfl
  | one s a ih => rw [Tr.sub, ih]
  | two s a b iha ihb => rw [Tr.sub, iha, ihb]
theorem Tm.runs_term {rs : RuleL} {t x : List Int} {n : Nat} (h : Tm.Runs rs t n x) : Tm.err t = 0 := by
  cases h with
  | stop h _ => exact (Tm.stepErr_term h).2.1
  | go h _ _ => exact (Tm.stepErr_term h).2.1
theorem Tm.form_term {rs : RuleL} {t : List Int} (h : (Tm.form rs t).2.2 = 0) : Tm.err t = 0 := by
  obtain ⟨n, _, hr, _⟩ := Tm.form_runs h
  exact Tm.runs_term hr
theorem Tr.held_is {rk : List Int} {rs : RuleL} {Rn : List (Tr × Tr)} (hR : Tr.Rules rs Rn) (hg : ∀ p ∈ Rn, Tr.G (Tm.rankOf rk) p.1 p.2) (hl : Tr.LapMeet Rn) {P Q : List Int} (hh : Tr.Held (Tm.rankOf rk) Rn P Q) (he : Tm.joinErr rs P Q = 0) : Tm.joinIs rs P Q = true := by
  obtain ⟨f1, f2⟩ := Tm.joinErr_two he
  obtain ⟨x, x1, rfl⟩ := Tr.of_err (Tm.form_term f1)
  obtain ⟨y, y1, rfl⟩ := Tr.of_err (Tm.form_term f2)
  obtain ⟨B, hB⟩ := low_of rk
  have h0 : ∀ s, 0 ≤ s → B ≤ Tm.rankOf rk s := fun s _ => hB _
  have okl : Tr.Oks (fun s => .leaf s) := fun s hs => by show s < 2; omega
  have hc := hh x y x1 y1 rfl rfl .hole (fun s => .leaf s) okl (by show (x.sub _).ok; rw [Tr.sub_leaf]; exact x1) (by show (y.sub _).ok; rw [Tr.sub_leaf]; exact y1)
  simp only [Cx.fill, Tr.sub_leaf] at hc
  have hm := hc.meets fun a b c ha hb hc' => Tr.meet_all h0 hR.2 hg hl (by rcases ha with ha | ha <;> exact ha.1) hb hc'
  obtain ⟨x', _, x3, x4, x5⟩ := Tr.form hR x1 f1
  obtain ⟨y', _, y3, y4, y5⟩ := Tr.form hR y1 f2
  have e := Tr.one_form h0 hR.2 hg hl x1 y1 hm x4 x5 y4 y5
  unfold Tm.joinIs
  rw [decide_eq_true he, Bool.true_and, ← x3, ← y3, e]
  simp [sameB]
theorem Tm.AllTo.held {S : List Int × List Int → Prop} {rs : RuleL} (hr : Tm.rulesErr rs = 0) (hi : Tm.OfAll S rs) {i j : Nat} {l : PairL} (h : Tm.AllTo rs i j l) : ∀ p ∈ l, S p := by
  induction h with
  | zero => intro p hp; simp at hp
  | @next i j l ps _ hj hs ih =>
    intro p hp
    rcases List.mem_append.1 hp with hp | hp
    · exact ih p hp
    · have ha : i < rs.length := by
        rcases hs with ⟨h1, _⟩ | ⟨_, _, h2, _⟩ | ⟨_, a, b, ha, _, ea, _⟩
        · exact absurd hr h1
        · exact absurd h2 (by decide)
        · omega
      obtain ⟨ps0, g1, g2⟩ := Tm.ofAll_at hr hi i j ha hj
      rcases Tm.of_laps g1 with ⟨_, g3⟩ | ⟨g3, _⟩
      · obtain ⟨_, e⟩ := hs.right hr ha hj g3
        rw [e] at hp
        exact g2 p hp
      · exact absurd rfl g3.1
  | row _ ih => exact ih
theorem Tm.joinL_is {rs : RuleL} : ∀ (l : PairL) (is : Bool), (∀ p ∈ l, Tm.joinErr rs p.1 p.2 = 0 → Tm.joinIs rs p.1 p.2 = true) → (is, (0 : Int)) = Tm.joinL rs l → is = true := by
  intro l
  induction l with
  | nil => intro is _ h; rw [Tm.joinL] at h; cases h; rfl
  | cons p l ih =>
    intro is hp h
    rw [Tm.joinL] at h
    by_cases hj : Tm.joinIs rs p.1 p.2 = true
    · rw [if_pos hj] at h
      exact ih is (fun q hq => hp q (by simp [hq])) h
    · rw [if_neg hj, Prod.mk.injEq] at h
      exact absurd (hp p (by simp) h.2.symm) hj
/-- J3. -/
theorem Tm.run_true {rk : List Int} {ps : PairL} {rs : RuleL} {n : Nat} (h : Tm.RunSays rk ps 0 rs n) : (∀ is, Tm.JoinSays rs is 0 → is = true) ∧ ∀ x ∈ ps, Tm.joinErr rs x.1 x.2 = 0 → Tm.joinIs rs x.1 x.2 = true := by
  obtain ⟨w1, w2⟩ := Tm.run_falls h
  obtain ⟨hr, _⟩ := Tm.falls_each w1 w2
  obtain ⟨Rn, hR, hg, hl, h1, h2⟩ := Tr.run_meets h
  refine ⟨fun is hj => ?_, fun x hx he => Tr.held_is hR hg hl (h1 x hx) he⟩
  obtain ⟨er', qs, hs, h3⟩ := hj
  rcases h3 with ⟨h3, _, h4⟩ | ⟨rfl, h3⟩
  · exact absurd h4.symm h3
  · refine Tm.joinL_is qs is (fun p hp he => ?_) h3
    rcases hs with ⟨l, hto, ⟨_, _, rfl⟩ | ⟨_, h5, _⟩⟩ | ⟨_, _, _, _, _, _, _, _, h5, _⟩
    · exact Tr.held_is hR hg hl (Tm.AllTo.held hr h2 hto p hp) he
    · exact absurd h5 (by decide)
    · exact absurd rfl h5
theorem Tm.run_none {rk : List Int} {rs : RuleL} {n : Nat} (h : Tm.RunSays rk [] 0 rs n) : rs = [] := by
  have key : ∀ (k : Nat) (rs : RuleL) (qs : PairL), Tm.RunTo rk [] k rs qs → k = 0 ∧ rs = [] ∧ qs = [] := by
    intro k
    induction k with
    | zero => rintro rs qs ⟨rfl, rfl⟩; exact ⟨rfl, rfl, rfl⟩
    | succ k ih =>
      rintro rs qs ⟨rs0, qs0, h1, h2, _⟩
      obtain ⟨_, _, rfl⟩ := ih _ _ h1
      simp at h2
  rcases h with ⟨h, h', _⟩ | ⟨_, k, rs0, qs, _, hto, h⟩
  · exact absurd h'.symm h
  · rcases h with ⟨_, _, rfl, _⟩ | ⟨_, _, h, _⟩ | ⟨_, _, h, _⟩
    · exact (key _ _ _ hto).2.1
    · exact absurd h (by decide)
    · exact absurd rfl h

end Go.Proofs.Ytgeknojpcjadkaa
