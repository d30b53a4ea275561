/-
  PLAIN MATHEMATICS: the critical pair lemma on trees. · PLAIN MATHEMATICS: from lists of signs to trees: each right term is one tree's; what variables become, parts, what is put in a place, and steps. · PLAIN MATHEMATICS: a term that has no step has none as a tree; forms. · PLAIN MATHEMATICS: forms as trees; there is but one form where rules fall and all that lap over meet. · PLAIN MATHEMATICS: two terms made plain, and back again; trees whose variables change their names; terms of any size by what variables become. · PLAIN MATHEMATICS: which pairs there are, and that they meet, read off what pairs and join answer. · PLAIN MATHEMATICS: trees with a hole, and what variables become, read back. · PLAIN MATHEMATICS: if join says that all pairs meet, all that lap over meet. · PLAIN MATHEMATICS: what laps over is an instance of a pair of Of. · PLAIN MATHEMATICS: RULES THAT FALL AND ALL OF WHOSE PAIRS MEET: two that meet have one form. · PLAIN MATHEMATICS: connected below what parts: then all meets. · PLAIN MATHEMATICS: what stands in a run is linked by the rules at its end, and nothing on the way is above.
-/
import Derived.Test.YtgeknojpcjadkaaBct30
import Derived.Test.YtgeknojpcjadkaaBct21
import Derived.Test.YtgeknojpcjadkaaBct23
namespace Go.Proofs.Ytgeknojpcjadkaa
open Go.Proofs Go.RowKit Go.Shelf

/-- A tree with a hole. -/
inductive Cx
  | hole
  | one (s : Int) (C : Cx)
  | twoL (s : Int) (C : Cx) (b : Tr)
  | twoR (s : Int) (a : Tr) (C : Cx)
def Cx.fill : Cx → Tr → Tr
  | .hole, x => x
  | .one s C, x => .one s (C.fill x)
  | .twoL s C b, x => .two s (C.fill x) b
  | .twoR s a C, x => .two s a (C.fill x)
def Cx.sub (f : Int → Tr) : Cx → Cx
  | .hole => .hole
  | .one s C => .one s (C.sub f)
  | .twoL s C b => .twoL s (C.sub f) (b.sub f)
  | .twoR s a C => .twoR s (a.sub f) (C.sub f)
theorem Cx.fill_sub (f : Int → Tr) (C : Cx) (x : Tr) : (C.fill x).sub f = (C.sub f).fill (x.sub f) := by
  induction C with
  | hole => rfl
  | one s C ih => simp only [Cx.fill, Cx.sub, Tr.sub, ih]
  | twoL s C b ih => simp only [Cx.fill, Cx.sub, Tr.sub, ih]
  | twoR s a C ih => simp only [Cx.fill, Cx.sub, Tr.sub, ih]
theorem Tr.St.fill {rs : List (Tr × Tr)} (C : Cx) {a b : Tr} (h : Tr.St rs a b) : Tr.St rs (C.fill a) (C.fill b) := by
  induction C with
  | hole => exact h
  | one s C ih => exact .one _ _ _ ih
  | twoL s C b ih => exact .twoL _ _ _ _ ih
  | twoR s a C ih => exact .twoR _ _ _ _ ih
theorem Tr.Sts.fill {rs : List (Tr × Tr)} (C : Cx) {a b : Tr} (h : Tr.Sts rs a b) : Tr.Sts rs (C.fill a) (C.fill b) := h.map (F := C.fill) (fun _ _ h => h.fill C)

def Tr.RsOk (rs : List (Tr × Tr)) : Prop := ∀ p ∈ rs, p.1.ok ∧ p.2.ok
theorem Tr.St.ok {rs : List (Tr × Tr)} (hrs : Tr.RsOk rs) {a b : Tr} (h : Tr.St rs a b) : a.ok → b.ok := by
  induction h with
  | root l r g hm hg => exact fun _ => Tr.sub_ok hg (hrs _ hm).2
  | one s a b _ ih => exact fun h => ⟨h.1, ih h.2⟩
  | twoL s a b c _ ih => exact fun h => ⟨h.1, ih h.2.1, h.2.2⟩
  | twoR s a b c _ ih => exact fun h => ⟨h.1, h.2.1, ih h.2.2⟩
theorem Tr.Sts.ok {rs : List (Tr × Tr)} (hrs : Tr.RsOk rs) {a b : Tr} (h : Tr.Sts rs a b) : a.ok → b.ok := by
  induction h with
  | refl a => exact id
  | step a b c h1 _ ih => exact fun h => ih (h1.ok hrs h)
/-- Steps go down. -/
theorem Tr.St.down {rs : List (Tr × Tr)} {r : Int → Int} (hrs : Tr.RsOk rs) (hg : ∀ p ∈ rs, Tr.G r p.1 p.2) {a b : Tr} (h : Tr.St rs a b) : a.ok → Tr.G r a b := by
  induction h with
  | root l r g hm hf => exact fun _ => Tr.G.sub hf (hrs _ hm).1 (hrs _ hm).2 (hg _ hm)
  | one s a b h ih => exact fun ho => Tr.G.one ho.1 ho.2 (h.ok hrs ho.2) (ih ho.2)
  | twoL s a b c h ih => exact fun ho => Tr.G.twoL ho.1 ho.2.1 (h.ok hrs ho.2.1) ho.2.2 (ih ho.2.1)
  | twoR s a b c h ih => exact fun ho => Tr.G.twoR ho.1 ho.2.2 (h.ok hrs ho.2.2) ho.2.1 (ih ho.2.2)
theorem Tr.St.ends {rs : List (Tr × Tr)} {r : Int → Int} {B : Int} (h0 : ∀ s, 0 ≤ s → B ≤ r s) (hrs : Tr.RsOk rs) (hg : ∀ p ∈ rs, Tr.G r p.1 p.2) {x : Tr} (hx : x.ok) : Acc (fun b a : Tr => Tr.St rs a b) x := by
  have h := Tr.ends h0 x hx
  unfold Tr.Ends at h
  induction h with
  | intro x _ ih => exact Acc.intro _ fun b hb => ih b ⟨hb.ok hrs hx, hb.down hrs hg hx⟩ (hb.ok hrs hx)

theorem Tr.St.inv {rs : List (Tr × Tr)} {x z : Tr} (h : Tr.St rs x z) : (∃ l r g, (l, r) ∈ rs ∧ Tr.Oks g ∧ x = l.sub g ∧ z = r.sub g) ∨ (∃ s a b, x = .one s a ∧ z = .one s b ∧ Tr.St rs a b) ∨
    (∃ s a b c, x = .two s a c ∧ z = .two s b c ∧ Tr.St rs a b) ∨ (∃ s a b c, x = .two s c a ∧ z = .two s c b ∧ Tr.St rs a b) := by
  cases h with
  | root l r g hm hg => exact .inl ⟨l, r, g, hm, hg, rfl, rfl⟩
  | one s a b h => exact .inr (.inl ⟨s, a, b, rfl, rfl, h⟩)
  | twoL s a b c h => exact .inr (.inr (.inl ⟨s, a, b, c, rfl, rfl, h⟩))
  | twoR s a b c h => exact .inr (.inr (.inr ⟨s, a, b, c, rfl, rfl, h⟩))

/-- A step in what comes of l: at a symbol of l, or in what a variable became. -/
theorem Tr.peak {rs : List (Tr × Tr)} (hrs : Tr.RsOk rs) {f : Int → Tr} (hf : Tr.Oks f) : ∀ (l z : Tr), Tr.St rs (l.sub f) z →
    (∃ C u l2 r2 g, Cx.fill C u = l ∧ 0 ≤ u.sy ∧ (l2, r2) ∈ rs ∧ Tr.Oks g ∧ u.sub f = l2.sub g ∧ z = (C.sub f).fill (r2.sub g)) ∨ (∃ f', Tr.Oks f' ∧ (∀ s, s < 0 → Tr.Sts rs (f s) (f' s)) ∧ Tr.Sts rs z (l.sub f')) := by
  intro l
  induction l with
  | leaf s =>
    intro z h
    by_cases hs : s < 0
    · right
      rw [Tr.sub, if_pos hs] at h
      refine ⟨fun x => if x = s then z else f x, fun x hx => ?_, fun x hx => ?_, ?_⟩
      · by_cases e : x = s
        · simp only [if_pos e]; exact h.ok hrs (hf s hs)
        · simp only [if_neg e]; exact hf x hx
      · by_cases e : x = s
        · simp only [if_pos e]; rw [e]; exact h.many
        · simp only [if_neg e]; exact .refl _
      · simp only [Tr.sub, if_pos hs, if_true]; exact .refl _
    · left
      have h' := h
      rw [Tr.sub, if_neg hs] at h'
      rcases h'.inv with ⟨l2, r2, g, hm, hg, e1, e2⟩ | ⟨_, _, _, e, _⟩ | ⟨_, _, _, _, e, _⟩ | ⟨_, _, _, _, e, _⟩
      · exact ⟨.hole, .leaf s, l2, r2, g, rfl, by simp only [Tr.sy]; omega, hm, hg, by rw [Tr.sub, if_neg hs]; exact e1, e2⟩
      · cases e
      · cases e
      · cases e
  | one s a ih =>
    intro z h
    by_cases h0 : 0 ≤ s
    · rcases h.inv with ⟨l2, r2, g, hm, hg, e1, e2⟩ | ⟨s', a', b', e, e2, h'⟩ | ⟨_, _, _, _, e, _⟩ | ⟨_, _, _, _, e, _⟩
      · exact .inl ⟨.hole, .one s a, l2, r2, g, rfl, h0, hm, hg, e1, e2⟩
      · rw [Tr.sub] at e
        cases e
        rcases ih _ h' with ⟨C, u, l2, r2, g, q1, q2, q3, q4, q5, q6⟩ | ⟨f', q1, q2, q3⟩
        · exact .inl ⟨.one s C, u, l2, r2, g, by rw [Cx.fill, q1], q2, q3, q4, q5, by rw [e2, q6]; rfl⟩
        · exact .inr ⟨f', q1, q2, by rw [e2]; exact q3.one s⟩
      · cases e
      · cases e
    · rcases h.inv with ⟨l2, r2, g, hm, hg, e1, e2⟩ | ⟨s', a', b', e, e2, h'⟩ | ⟨_, _, _, _, e, _⟩ | ⟨_, _, _, _, e, _⟩
      · exfalso
        have hok := Tr.sub_ok hg (hrs _ hm).1
        rw [← e1, Tr.sub] at hok
        have := hok.1
        omega
      · rw [Tr.sub] at e
        cases e
        rcases ih _ h' with ⟨C, u, l2, r2, g, q1, q2, q3, q4, q5, q6⟩ | ⟨f', q1, q2, q3⟩
        · exact .inl ⟨.one s C, u, l2, r2, g, by rw [Cx.fill, q1], q2, q3, q4, q5, by rw [e2, q6]; rfl⟩
        · exact .inr ⟨f', q1, q2, by rw [e2]; exact q3.one s⟩
      · cases e
      · cases e
  | two s a b iha ihb =>
    intro z h
    rcases h.inv with ⟨l2, r2, g, hm, hg, e1, e2⟩ | ⟨s', a', b', e, _⟩ | ⟨s', a', b', c', e, e2, h'⟩ | ⟨s', a', b', c', e, e2, h'⟩
    · have h0 : 0 ≤ s := by
        have hok := Tr.sub_ok hg (hrs _ hm).1
        rw [← e1, Tr.sub] at hok
        have := hok.1
        omega
      exact .inl ⟨.hole, .two s a b, l2, r2, g, rfl, h0, hm, hg, e1, e2⟩
    · cases e
    · rw [Tr.sub] at e
      cases e
      rcases iha _ h' with ⟨C, u, l2, r2, g, q1, q2, q3, q4, q5, q6⟩ | ⟨f', q1, q2, q3⟩
      · exact .inl ⟨.twoL s C b, u, l2, r2, g, by rw [Cx.fill, q1], q2, q3, q4, q5, by rw [e2, q6]; rfl⟩
      · exact .inr ⟨f', q1, q2, by rw [e2]; exact q3.two s (Tr.Sts.vars q2 b)⟩
    · rw [Tr.sub] at e
      cases e
      rcases ihb _ h' with ⟨C, u, l2, r2, g, q1, q2, q3, q4, q5, q6⟩ | ⟨f', q1, q2, q3⟩
      · exact .inl ⟨.twoR s a C, u, l2, r2, g, by rw [Cx.fill, q1], q2, q3, q4, q5, by rw [e2, q6]; rfl⟩
      · exact .inr ⟨f', q1, q2, by rw [e2]; exact (Tr.Sts.vars q2 a).two s q3⟩

/-- All that lap over meet. -/
def Tr.LapMeet (rs : List (Tr × Tr)) : Prop := ∀ l1 r1 l2 r2, (l1, r1) ∈ rs → (l2, r2) ∈ rs → ∀ C u f g, Cx.fill C u = l1 → 0 ≤ u.sy → Tr.Oks f → Tr.Oks g → u.sub f = l2.sub g → Tr.Meets rs (r1.sub f) ((C.sub f).fill (r2.sub g))

theorem Tr.root_meet {rs : List (Tr × Tr)} (hrs : Tr.RsOk rs) (hl : Tr.LapMeet rs) {l r : Tr} {f : Int → Tr} (hm : (l, r) ∈ rs) (hf : Tr.Oks f) {z : Tr} (h : Tr.St rs (l.sub f) z) : Tr.Meets rs (r.sub f) z := by
  rcases Tr.peak hrs hf l z h with ⟨C, u, l2, r2, g, q1, q2, q3, q4, q5, q6⟩ | ⟨f', q1, q2, q3⟩
  · rw [q6]
    exact hl l r l2 r2 hm q3 C u f g q1 q2 hf q4 q5
  · exact ⟨r.sub f', Tr.Sts.vars q2 r, q3.trans (Tr.St.root l r f' hm q1).many⟩

/-- Where steps part, they meet again. -/
theorem Tr.local_meet {rs : List (Tr × Tr)} (hrs : Tr.RsOk rs) (hl : Tr.LapMeet rs) : ∀ (x y z : Tr), Tr.St rs x y → Tr.St rs x z → Tr.Meets rs y z := by
  intro x
  induction x with
  | leaf s =>
    intro y z h1 h2
    rcases h1.inv with ⟨l, r, g, hm, hg, e1, e2⟩ | ⟨_, _, _, e, _⟩ | ⟨_, _, _, _, e, _⟩ | ⟨_, _, _, _, e, _⟩
    · rw [e1] at h2; rw [e2]; exact Tr.root_meet hrs hl hm hg h2
    · cases e
    · cases e
    · cases e
  | one s a ih =>
    intro y z h1 h2
    rcases h1.inv with ⟨l, r, g, hm, hg, e1, e2⟩ | ⟨s1, a1, b1, e1, e2, i1⟩ | ⟨_, _, _, _, e, _⟩ | ⟨_, _, _, _, e, _⟩
    · rw [e1] at h2; rw [e2]; exact Tr.root_meet hrs hl hm hg h2
    · rcases h2.inv with ⟨l, r, g, hm, hg, f1, f2⟩ | ⟨s2, a2, b2, f1, f2, i2⟩ | ⟨_, _, _, _, e, _⟩ | ⟨_, _, _, _, e, _⟩
      · rw [f1] at h1; rw [f2]; exact (Tr.root_meet hrs hl hm hg h1).symm
      · cases e1
        cases f1
        obtain ⟨c, c1, c2⟩ := ih _ _ i1 i2
        exact ⟨.one s c, by rw [e2]; exact c1.one s, by rw [f2]; exact c2.one s⟩
      · cases e
      · cases e
    · cases e
    · cases e
  | two s a b iha ihb =>
    intro y z h1 h2
    rcases h1.inv with ⟨l, r, g, hm, hg, e1, e2⟩ | ⟨_, _, _, e, _⟩ | ⟨s1, a1, b1, c1, e1, e2, i1⟩ | ⟨s1, a1, b1, c1, e1, e2, i1⟩
    · rw [e1] at h2; rw [e2]; exact Tr.root_meet hrs hl hm hg h2
    · cases e
    · rcases h2.inv with ⟨l, r, g, hm, hg, f1, f2⟩ | ⟨_, _, _, e, _⟩ | ⟨s2, a2, b2, c2, f1, f2, i2⟩ | ⟨s2, a2, b2, c2, f1, f2, i2⟩
      · rw [f1] at h1; rw [f2]; exact (Tr.root_meet hrs hl hm hg h1).symm
      · cases e
      · cases e1
        cases f1
        obtain ⟨c, d1, d2⟩ := iha _ _ i1 i2
        exact ⟨.two s c b, by rw [e2]; exact d1.two s (.refl _), by rw [f2]; exact d2.two s (.refl _)⟩
      · cases e1
        cases f1
        exact ⟨.two s b1 b2, by rw [e2]; exact (Tr.Sts.refl _).two s i2.many, by rw [f2]; exact i1.many.two s (.refl _)⟩
    · rcases h2.inv with ⟨l, r, g, hm, hg, f1, f2⟩ | ⟨_, _, _, e, _⟩ | ⟨s2, a2, b2, c2, f1, f2, i2⟩ | ⟨s2, a2, b2, c2, f1, f2, i2⟩
      · rw [f1] at h1; rw [f2]; exact (Tr.root_meet hrs hl hm hg h1).symm
      · cases e
      · cases e1
        cases f1
        exact ⟨.two s b2 b1, by rw [e2]; exact i2.many.two s (.refl _), by rw [f2]; exact (Tr.Sts.refl _).two s i1.many⟩
      · cases e1
        cases f1
        obtain ⟨c, d1, d2⟩ := ihb _ _ i1 i2
        exact ⟨.two s a c, by rw [e2]; exact (Tr.Sts.refl _).two s d1, by rw [f2]; exact (Tr.Sts.refl _).two s d2⟩

/-- RULES THAT FALL AND WHOSE PAIRS MEET: whatever comes of one term meets again. -/
theorem Tr.meet_all {rs : List (Tr × Tr)} {r : Int → Int} {B : Int} (h0 : ∀ s, 0 ≤ s → B ≤ r s) (hrs : Tr.RsOk rs) (hg : ∀ p ∈ rs, Tr.G r p.1 p.2) (hl : Tr.LapMeet rs) {x y z : Tr} (hx : x.ok) (hy : Tr.Sts rs x y) (hz : Tr.Sts rs x z) : Tr.Meets rs y z :=
  Tr.newman (P := fun _ => True) (fun _ _ _ _ => trivial) (fun x y z _ h1 h2 => Tr.local_meet hrs hl x y z h1 h2) (Tr.St.ends h0 hrs hg hx) trivial y z hy hz

end Go.Proofs.Ytgeknojpcjadkaa

namespace Go.Proofs.Ytgeknojpcjadkaa
open Go.Proofs Go.RowKit Go.Shelf

theorem Tr.of_err {t : List Int} (h : Tm.err t = 0) : ∃ x : Tr, x.ok ∧ x.flat = t := by
  have ha := Tm.err_all h
  rw [List.all_eq_true] at ha
  exact Tr.of (fun s hs => Tm.known_lt (ha s hs)) (Tm.err_run h)

theorem Tr.sub_flat {ss : List (List Int)} {f : Int → Tr} : ∀ (x : Tr), x.ok → (∀ s ∈ x.flat, s < 0 → (f s).flat = Tm.piece ss s) → (x.sub f).flat = Tm.applied ss x.flat := by
  intro x
  induction x with
  | leaf s =>
    intro _ h
    rw [Tr.sub]
    by_cases hs : s < 0
    · rw [if_pos hs, h s (by simp [Tr.flat]) hs]; simp [Tr.flat, Tm.applied]
    · rw [if_neg hs]; simp [Tr.flat, Tm.applied, Tm.piece, hs]
  | one s a ih =>
    intro ho h
    have hs : ¬ s < 0 := by have := ho.1; omega
    rw [Tr.sub, Tr.flat, ih ho.2 (fun x hx => h x (List.mem_cons_of_mem _ hx)), Tr.flat]
    simp [Tm.applied, Tm.piece, hs]
  | two s a b iha ihb =>
    intro ho h
    have hs : ¬ s < 0 := by have := ho.1; omega
    rw [Tr.sub, Tr.flat, iha ho.2.1 (fun x hx => h x (List.mem_cons_of_mem _ (List.mem_append_left _ hx))), ihb ho.2.2 (fun x hx => h x (List.mem_cons_of_mem _ (List.mem_append_right _ hx))), Tr.flat]
    simp [Tm.applied, Tm.piece, hs]

/-- What stands at a place. -/
theorem Tr.at : ∀ (x : Tr), x.ok → ∀ a, a < x.flat.length → ∃ (C : Cx) (u : Tr) (pre suf : List Int), u.ok ∧ C.fill u = x ∧ pre.length = a ∧ ∀ v : Tr, (C.fill v).flat = pre ++ (v.flat ++ suf) := by
  intro x
  induction x with
  | leaf s =>
    intro h a ha
    exact ⟨.hole, .leaf s, [], [], h, rfl, by simp [Tr.flat] at ha; simp [ha], fun v => by simp [Cx.fill]⟩
  | one s a ih =>
    intro h k hk
    cases k with
    | zero => exact ⟨.hole, .one s a, [], [], h, rfl, rfl, fun v => by simp [Cx.fill]⟩
    | succ k =>
      obtain ⟨C, u, pre, suf, h1, h2, h3, h4⟩ := ih h.2 k (by simpa [Tr.flat] using hk)
      exact ⟨.one s C, u, s :: pre, suf, h1, by rw [Cx.fill, h2], by simp [h3], fun v => by rw [Cx.fill, Tr.flat, h4]; rfl⟩
  | two s a b iha ihb =>
    intro h k hk
    cases k with
    | zero => exact ⟨.hole, .two s a b, [], [], h, rfl, rfl, fun v => by simp [Cx.fill]⟩
    | succ k =>
      by_cases hl : k < a.flat.length
      · obtain ⟨C, u, pre, suf, h1, h2, h3, h4⟩ := iha h.2.1 k hl
        exact ⟨.twoL s C b, u, s :: pre, suf ++ b.flat, h1, by rw [Cx.fill, h2], by simp [h3], fun v => by rw [Cx.fill, Tr.flat, h4]; simp⟩
      · obtain ⟨C, u, pre, suf, h1, h2, h3, h4⟩ := ihb h.2.2 (k - a.flat.length) (by simp [Tr.flat] at hk; omega)
        exact ⟨.twoR s a C, u, s :: (a.flat ++ pre), suf, h1, by rw [Cx.fill, h2], by simp [h3]; omega, fun v => by rw [Cx.fill, Tr.flat, h4]; simp⟩
theorem Tr.part_of {u : Tr} (h : u.ok) (pre suf : List Int) : Tm.endAt (pre ++ (u.flat ++ suf)) pre.length = pre.length + u.flat.length ∧ Tm.part (pre ++ (u.flat ++ suf)) pre.length = u.flat := by
  have e : Tm.endAt (pre ++ (u.flat ++ suf)) pre.length = pre.length + u.flat.length := by
    unfold Tm.endAt
    rw [List.drop_left, Tr.run h suf 0, Tm.run_zero]
    rfl
  refine ⟨e, ?_⟩
  unfold Tm.part
  rw [e, List.drop_left, Nat.add_sub_cancel_left, List.take_left]
theorem Tr.put_of {u : Tr} (h : u.ok) (pre suf us : List Int) : Tm.put (pre ++ (u.flat ++ suf)) pre.length us = pre ++ (us ++ suf) := by
  unfold Tm.put
  rw [(Tr.part_of h pre suf).1, List.take_left, ← List.append_assoc, ← List.length_append, List.drop_left, List.append_assoc]
theorem Cx.flat (C : Cx) : ∃ pre suf : List Int, ∀ v : Tr, (C.fill v).flat = pre ++ (v.flat ++ suf) := by
  induction C with
  | hole => exact ⟨[], [], fun v => by simp [Cx.fill]⟩
  | one s C ih => obtain ⟨pre, suf, h⟩ := ih; exact ⟨s :: pre, suf, fun v => by rw [Cx.fill, Tr.flat, h]; rfl⟩
  | twoL s C b ih => obtain ⟨pre, suf, h⟩ := ih; exact ⟨s :: pre, suf ++ b.flat, fun v => by rw [Cx.fill, Tr.flat, h]; simp⟩
  | twoR s a C ih => obtain ⟨pre, suf, h⟩ := ih; exact ⟨s :: (a.flat ++ pre), suf, fun v => by rw [Cx.fill, Tr.flat, h]; simp⟩

/-- What variables become, as trees. -/
theorem Tr.asg {ss : List (List Int)} (h : Terms ss) : ∃ f : Int → Tr, Tr.Oks f ∧ ∀ s, s < 0 → -8 ≤ s → (f s).flat = Tm.piece ss s := by
  have key : ∀ s : Int, ∃ y : Tr, y.ok ∧ (s < 0 → -8 ≤ s → y.flat = Tm.piece ss s) := fun s => by
    by_cases hs : s < 0 ∧ -8 ≤ s
    · obtain ⟨y, h1, h2⟩ := Tr.of_err (Tm.piece_term h hs.2 hs.1)
      exact ⟨y, h1, fun _ _ => h2⟩
    · exact ⟨.leaf 0, by simp [Tr.ok], fun h1 h2 => absurd ⟨h1, h2⟩ hs⟩
  obtain ⟨f, hf⟩ := Classical.axiomOfChoice key
  exact ⟨f, fun s _ => (hf s).1, fun s => (hf s).2⟩

/-- The rules as trees. -/
def Tr.Rules (rs : RuleL) (Rs : List (Tr × Tr)) : Prop := Rs.map (fun p => (p.1.flat, p.2.flat)) = rs ∧ Tr.RsOk Rs
theorem Tr.Rules.of {rs : RuleL} (h : ∀ p ∈ rs, Tm.err p.1 = 0 ∧ Tm.err p.2 = 0) : ∃ Rs, Tr.Rules rs Rs := by
  induction rs with
  | nil => exact ⟨[], rfl, fun p hp => by cases hp⟩
  | cons q rs ih =>
    obtain ⟨Rs, h1, h2⟩ := ih (fun p hp => h p (List.mem_cons_of_mem _ hp))
    obtain ⟨x, x1, x2⟩ := Tr.of_err (h q List.mem_cons_self).1
    obtain ⟨y, y1, y2⟩ := Tr.of_err (h q List.mem_cons_self).2
    refine ⟨(x, y) :: Rs, by rw [List.map_cons, h1, x2, y2], fun p hp => ?_⟩
    rcases List.mem_cons.1 hp with rfl | hp
    · exact ⟨x1, y1⟩
    · exact h2 p hp
theorem Tr.Rules.err {rs : RuleL} (h : Tm.rulesErr rs = 0) : ∃ Rs, Tr.Rules rs Rs := by
  obtain ⟨_, hall⟩ := Tm.rulesErr_ok h
  refine Tr.Rules.of fun p hp => ?_
  obtain ⟨k, hk, rfl⟩ := List.getElem_of_mem hp
  obtain ⟨hL, hR, _⟩ := Tm.ruleErr_ok (hall k hk)
  rw [List.getElem?_eq_getElem hk] at hL hR
  exact ⟨hL, hR⟩
theorem Tr.Rules.get {rs : RuleL} {Rs : List (Tr × Tr)} (h : Tr.Rules rs Rs) {k : Nat} (hk : k < rs.length) : ∃ l r, (l, r) ∈ Rs ∧ l.flat = (rs[k]?.getD ([], [])).1 ∧ r.flat = (rs[k]?.getD ([], [])).2 := by
  obtain ⟨rfl, _⟩ := h
  have hk' : k < Rs.length := by simpa using hk
  refine ⟨Rs[k].1, Rs[k].2, List.getElem_mem hk', ?_, ?_⟩ <;> simp [hk']

/-- A step of a right term is a step of its tree. -/
theorem Tr.step_of {rs : RuleL} {Rs : List (Tr × Tr)} (hR : Tr.Rules rs Rs) (hr : Tm.rulesErr rs = 0) {t u : List Int} {a k : Nat} {m : Asg} (hk : k < rs.length) (ht : Tm.err t = 0) (ha : a < t.length)
    (h : Tm.Step1 (rs[k]?.getD ([], [])).1 (rs[k]?.getD ([], [])).2 t u a m) {x : Tr} (hx : x.ok) (e : x.flat = t) : ∃ y, y.ok ∧ y.flat = u ∧ Tr.St Rs x y := by
  obtain ⟨_, hall⟩ := Tm.rulesErr_ok hr
  obtain ⟨hL, hR', _⟩ := Tm.ruleErr_ok (hall k hk)
  obtain ⟨l, r, hm, el, er⟩ := hR.get hk
  obtain ⟨hT, e1, e2, e3⟩ := h.parts hL hR' ht ha
  obtain ⟨f, hf, hf'⟩ := Tr.asg hT
  have known : ∀ {z : List Int}, Tm.err z = 0 → ∀ s ∈ z, -8 ≤ s := fun hz s hs => by
    have := Tm.err_all hz
    rw [List.all_eq_true] at this
    have := this s hs
    simp [Tm.known] at this
    omega
  have sl : (l.sub f).flat = Tm.part t a := by rw [Tr.sub_flat l (hR.2 _ hm).1 (fun s hs h0 => hf' s h0 (known hL s (by rw [← el]; exact hs))), el, e1]
  have sr : (r.sub f).flat = Tm.applied (Tm.fitL m 8) (rs[k]?.getD ([], [])).2 := by rw [Tr.sub_flat r (hR.2 _ hm).2 (fun s hs h0 => hf' s h0 (known hR' s (by rw [← er]; exact hs))), er]
  subst e
  obtain ⟨C, v, pre, suf, h1, h2, h3, h4⟩ := Tr.at x hx a ha
  have hxf : x.flat = pre ++ (v.flat ++ suf) := by rw [← h4, h2]
  have hv : v = l.sub f := by
    refine Tr.flat_inj h1 (Tr.sub_ok hf (hR.2 _ hm).1) ?_
    rw [sl, hxf, ← h3, (Tr.part_of h1 pre suf).2]
  have hst : Tr.St Rs x (C.fill (r.sub f)) := by
    rw [← h2, hv]
    exact (Tr.St.root l r f hm hf).fill C
  refine ⟨_, hst.ok hR.2 hx, ?_, hst⟩
  rw [h4, h.goes, hxf, ← h3, Tr.put_of h1, sr]

end Go.Proofs.Ytgeknojpcjadkaa

namespace Go.Proofs.Ytgeknojpcjadkaa
open Go.Proofs Go.RowKit Go.Shelf

theorem Tr.var_in {f : Int → Tr} : ∀ (l : Tr), l.ok → ∀ s ∈ l.flat, s < 0 → ∃ C : Cx, C.fill (f s) = l.sub f := by
  intro l
  induction l with
  | leaf s =>
    intro _ x hx h0
    rw [Tr.flat, List.mem_singleton] at hx
    subst hx
    exact ⟨.hole, by rw [Tr.sub, if_pos h0]; rfl⟩
  | one s a ih =>
    intro ho x hx h0
    rcases List.mem_cons.1 hx with rfl | hx
    · have := ho.1; omega
    · obtain ⟨C, h⟩ := ih ho.2 x hx h0
      exact ⟨.one s C, by rw [Cx.fill, h]; rfl⟩
  | two s a b iha ihb =>
    intro ho x hx h0
    rcases List.mem_cons.1 hx with rfl | hx
    · have := ho.1; omega
    · rcases List.mem_append.1 hx with hx | hx
      · obtain ⟨C, h⟩ := iha ho.2.1 x hx h0
        exact ⟨.twoL s C (b.sub f), by rw [Cx.fill, h]; rfl⟩
      · obtain ⟨C, h⟩ := ihb ho.2.2 x hx h0
        exact ⟨.twoR s (a.sub f) C, by rw [Cx.fill, h]; rfl⟩
theorem Tr.err_fill {C : Cx} {u : Tr} (hu : u.ok) (h : Tm.err (C.fill u).flat = 0) : ∃ a, a < (C.fill u).flat.length ∧ Tm.part (C.fill u).flat a = u.flat ∧ Tm.err u.flat = 0 := by
  obtain ⟨pre, suf, hC⟩ := C.flat
  have ha : pre.length < (C.fill u).flat.length := by have := u.flat_pos; rw [hC]; simp; omega
  have hp : Tm.part (C.fill u).flat pre.length = u.flat := by rw [hC]; exact (Tr.part_of hu pre suf).2
  exact ⟨pre.length, ha, hp, by rw [← hp]; exact Tm.part_err h ha⟩
theorem Tr.known {z : List Int} (hz : Tm.err z = 0) : ∀ s ∈ z, -8 ≤ s := fun s hs => by
  have := Tm.err_all hz
  rw [List.all_eq_true] at this
  have := this s hs
  simp [Tm.known] at this
  omega
/-- What variables become, as a list of eight. -/
theorem Tr.listed {l : Tr} (hlo : l.ok) (hl : Tm.err l.flat = 0) {f : Int → Tr} (hf : Tr.Oks f) (hs : Tm.err (l.sub f).flat = 0) : ∃ ss, Terms ss ∧ (∀ s ∈ l.flat, s < 0 → (f s).flat = Tm.piece ss s) ∧ (l.sub f).flat = Tm.applied ss l.flat := by
  refine ⟨(List.range 8).map (fun (j : Nat) => if (-1 - (j : Int)) ∈ l.flat then (f (-1 - (j : Int))).flat else [0]), fun j hj => ?_, ?_, ?_⟩
  · rw [List.getElem?_map, List.getElem?_range hj, Option.map_some, Option.getD_some]
    by_cases hm : (-1 - (j : Int)) ∈ l.flat
    · rw [if_pos hm]
      obtain ⟨C, hC⟩ := Tr.var_in (f := f) l hlo _ hm (by omega)
      obtain ⟨_, _, _, h⟩ := Tr.err_fill (C := C) (hf _ (by omega : (-1 - (j : Int)) < 0)) (by rw [hC]; exact hs)
      exact h
    · rw [if_neg hm]; rfl
  · intro s hm h0
    have h8 := Tr.known hl s hm
    unfold Tm.piece
    rw [if_pos h0, List.getElem?_map, List.getElem?_range (by omega), Option.map_some, Option.getD_some]
    have e : (-1 - ((-1 - s).toNat : Int)) = s := by omega
    rw [e, if_pos hm]
  · refine Tr.sub_flat l hlo fun s hm h0 => ?_
    have h8 := Tr.known hl s hm
    unfold Tm.piece
    rw [if_pos h0, List.getElem?_map, List.getElem?_range (by omega), Option.map_some, Option.getD_some]
    have e : (-1 - ((-1 - s).toNat : Int)) = s := by omega
    rw [e, if_pos hm]
theorem Tr.fit_of {l : Tr} (hlo : l.ok) (hl : Tm.err l.flat = 0) {f : Int → Tr} (hf : Tr.Oks f) (hs : Tm.err (l.sub f).flat = 0) : ∃ m, Tm.fit l.flat (l.sub f).flat = some m := by
  obtain ⟨ss, h1, _, h3⟩ := Tr.listed hlo hl hf hs
  rw [h3]
  obtain ⟨m', e, _⟩ := Tm.fit_made l.flat ss h1 (Tm.err_all hl) _ 0 (fun _ => none) rfl (by omega) (fun x z h => by cases h)
  exact ⟨m', by simpa [Tm.fit, Tm.applied] using e⟩

theorem Tr.St.cx {rs : List (Tr × Tr)} {x y : Tr} (h : Tr.St rs x y) : ∃ (C : Cx) (l r : Tr) (f : Int → Tr), (l, r) ∈ rs ∧ Tr.Oks f ∧ x = C.fill (l.sub f) ∧ y = C.fill (r.sub f) := by
  induction h with
  | root l r f hm hf => exact ⟨.hole, l, r, f, hm, hf, rfl, rfl⟩
  | one s a b _ ih => obtain ⟨C, l, r, f, h1, h2, rfl, rfl⟩ := ih; exact ⟨.one s C, l, r, f, h1, h2, rfl, rfl⟩
  | twoL s a b c _ ih => obtain ⟨C, l, r, f, h1, h2, rfl, rfl⟩ := ih; exact ⟨.twoL s C c, l, r, f, h1, h2, rfl, rfl⟩
  | twoR s a b c _ ih => obtain ⟨C, l, r, f, h1, h2, rfl, rfl⟩ := ih; exact ⟨.twoR s c C, l, r, f, h1, h2, rfl, rfl⟩

/-- A right term that has no step has none as a tree. -/
theorem Tr.no_step {rs : RuleL} {Rs : List (Tr × Tr)} (hR : Tr.Rules rs Rs) {x y : Tr} (h : Tm.stepErr rs x.flat = 0) (hn : (Tm.stepVal rs x.flat).length = 0) : ¬ Tr.St Rs x y := by
  intro hst
  obtain ⟨hr, ht, _⟩ := Tm.stepErr_term h
  obtain ⟨C, l, r, f, hm, hf, rfl, _⟩ := hst.cx
  obtain ⟨a, ha, hp, he⟩ := Tr.err_fill (Tr.sub_ok hf (hR.2 _ hm).1) ht
  obtain ⟨_, hall⟩ := Tm.rulesErr_ok hr
  obtain ⟨k, hk, ek⟩ : ∃ k, k < rs.length ∧ (rs[k]?.getD ([], [])).1 = l.flat := by
    obtain ⟨k, hk, e⟩ := List.getElem_of_mem hm
    refine ⟨k, by rw [← hR.1]; simpa using hk, ?_⟩
    rw [← hR.1, List.getElem?_map, List.getElem?_eq_getElem hk, e]
    rfl
  obtain ⟨hL, _, _⟩ := Tm.ruleErr_ok (hall k hk)
  have hL' : Tm.err l.flat = 0 := by rw [← ek]; exact hL
  obtain ⟨m, hfit⟩ := Tr.fit_of (hR.2 _ hm).1 hL' hf he
  have hb : Tm.hitB rs (C.fill (l.sub f)).flat a k = true := by rw [Tm.hitB_fit hL ht ha, ek, hp, hfit]; rfl
  have hrow : ∀ n, k < n → (k, a, Tm.hitVal rs (C.fill (l.sub f)).flat a k) ∈ Tm.rowL rs (C.fill (l.sub f)).flat a n := by
    intro n
    induction n with
    | zero => intro h; omega
    | succ n ih =>
      intro h
      rw [Tm.rowL]
      rcases Nat.lt_or_ge k n with h1 | h1
      · exact List.mem_append_left _ (ih h1)
      · obtain rfl : k = n := by omega
        exact List.mem_append_right _ (by rw [if_pos hb]; exact List.mem_singleton.2 rfl)
  have hallm : ∀ m, a < m → (k, a, Tm.hitVal rs (C.fill (l.sub f)).flat a k) ∈ Tm.allL rs (C.fill (l.sub f)).flat m := by
    intro m
    induction m with
    | zero => intro h; omega
    | succ m ih =>
      intro h
      rw [Tm.allL]
      rcases Nat.lt_or_ge a m with h1 | h1
      · exact List.mem_append_left _ (ih h1)
      · obtain rfl : a = m := by omega
        exact List.mem_append_right _ (hrow _ hk)
  have hmem := hallm _ ha
  unfold Tm.stepVal at hn
  rw [if_pos h] at hn
  rw [List.eq_nil_of_length_eq_zero hn] at hmem
  cases hmem

end Go.Proofs.Ytgeknojpcjadkaa

namespace Go.Proofs.Ytgeknojpcjadkaa
open Go.Proofs Go.RowKit Go.Shelf

/-- What stands in the list of steps is a step. -/
theorem Tr.step_in {rs : RuleL} {Rs : List (Tr × Tr)} (hR : Tr.Rules rs Rs) {x : Tr} (hx : x.ok) (h : Tm.stepErr rs x.flat = 0) {s : Nat × Nat × List Int} (hs : s ∈ Tm.stepVal rs x.flat) : ∃ y, y.ok ∧ y.flat = s.2.2 ∧ Tr.St Rs x y := by
  obtain ⟨hr, ht, hE⟩ := Tm.stepErr_term h
  unfold Tm.stepVal at hs
  rw [if_pos h] at hs
  obtain ⟨h1, h2, h3, h4⟩ := Tm.allL_mem _ hs
  obtain ⟨m, hm⟩ := Tm.hit_step hr ht h1 h2 h3 (Tm.allE_all _ hE _ h1 _ h2 h3)
  rw [h4]
  exact Tr.step_of hR hr h2 ht h1 hm hx rfl

theorem Tr.runs {rs : RuleL} {Rs : List (Tr × Tr)} (hR : Tr.Rules rs Rs) {t v : List Int} {n : Nat} (h : Tm.Runs rs t n v) : ∀ {x : Tr}, x.ok → x.flat = t → ∃ y, y.ok ∧ y.flat = v ∧ Tr.Sts Rs x y ∧ ∀ z, ¬ Tr.St Rs y z := by
  induction h with
  | stop h hn =>
    intro x hx e
    exact ⟨x, hx, e, .refl _, fun z => Tr.no_step hR (by rw [e]; exact h) (by rw [e]; exact hn)⟩
  | @go t x n h hn _ ih =>
    intro y hy e
    have hmem : (Tm.stepVal rs t)[0]?.getD (0, 0, []) ∈ Tm.stepVal rs y.flat := by
      rw [e, List.getElem?_eq_getElem hn, Option.getD_some]
      exact List.getElem_mem hn
    obtain ⟨z, hz, ez, hst⟩ := Tr.step_in hR hy (by rw [e]; exact h) hmem
    obtain ⟨u, h1, h2, h3, h4⟩ := ih hz ez
    exact ⟨u, h1, h2, .step _ _ _ hst h3, h4⟩
theorem Tr.form {rs : RuleL} {Rs : List (Tr × Tr)} (hR : Tr.Rules rs Rs) {x : Tr} (hx : x.ok) (h : (Tm.form rs x.flat).2.2 = 0) : ∃ y, y.ok ∧ y.flat = (Tm.form rs x.flat).1 ∧ Tr.Sts Rs x y ∧ ∀ z, ¬ Tr.St Rs y z := by
  obtain ⟨n, hn, _⟩ := Tm.fm_runs 61 x.flat 0 h
  exact Tr.runs hR hn hx rfl

theorem Tr.still {rs : List (Tr × Tr)} {x z : Tr} (h : ∀ y, ¬ Tr.St rs x y) (hs : Tr.Sts rs x z) : z = x := by
  cases hs with
  | refl => rfl
  | step _ y _ h1 _ => exact absurd h1 (h y)
/-- One form. -/
theorem Tr.one_form {rs : List (Tr × Tr)} {r : Int → Int} {B : Int} (h0 : ∀ s, 0 ≤ s → B ≤ r s) (hrs : Tr.RsOk rs) (hg : ∀ p ∈ rs, Tr.G r p.1 p.2) (hl : Tr.LapMeet rs) {x y u v : Tr} (hx : x.ok) (hy : y.ok) (hm : Tr.Meets rs x y) (hu : Tr.Sts rs x u) (hu' : ∀ z, ¬ Tr.St rs u z) (hv : Tr.Sts rs y v) (hv' : ∀ z, ¬ Tr.St rs v z) : u = v := by
  obtain ⟨c, c1, c2⟩ := hm
  obtain ⟨d, d1, d2⟩ := Tr.meet_all h0 hrs hg hl hx hu c1
  have e1 := Tr.still hu' d1
  subst e1
  obtain ⟨e, e2, e3⟩ := Tr.meet_all h0 hrs hg hl hy (c2.trans d2) hv
  rw [← Tr.still hv' e3, Tr.still hu' e2]

end Go.Proofs.Ytgeknojpcjadkaa

namespace Go.Proofs.Ytgeknojpcjadkaa
open Go.Proofs Go.RowKit Go.Shelf

/-- Other names for variables. -/
def Tr.nm (q : Int → Int) (s : Int) : Int := if s < 0 then q s else s
theorem Tr.sub_names {q : Int → Int} : ∀ (x : Tr), x.ok → (x.sub (fun s => .leaf (q s))).flat = x.flat.map (Tr.nm q) := by
  intro x
  induction x with
  | leaf s =>
    intro _
    rw [Tr.sub]
    by_cases hs : s < 0
    · rw [if_pos hs]; simp [Tr.flat, Tr.nm, hs]
    · rw [if_neg hs]; simp [Tr.flat, Tr.nm, hs]
  | one s a ih =>
    intro ho
    have hs : ¬ s < 0 := by have := ho.1; omega
    rw [Tr.sub, Tr.flat, ih ho.2, Tr.flat, List.map_cons, Tr.nm, if_neg hs]
  | two s a b iha ihb =>
    intro ho
    have hs : ¬ s < 0 := by have := ho.1; omega
    rw [Tr.sub, Tr.flat, iha ho.2.1, ihb ho.2.2, Tr.flat, List.map_cons, List.map_append, Tr.nm, if_neg hs]
theorem Tr.sub_app {θ : Wb.Sb} {f : Int → Tr} : ∀ (x : Tr), x.ok → (∀ s ∈ x.flat, s < 0 → (f s).flat = θ s) → (x.sub f).flat = Wb.App θ x.flat := by
  intro x
  induction x with
  | leaf s =>
    intro _ h
    rw [Tr.sub]
    by_cases hs : s < 0
    · rw [if_pos hs, h s (by simp [Tr.flat]) hs]; simp [Tr.flat, Wb.App, hs]
    · rw [if_neg hs]; simp [Tr.flat, Wb.App, hs]
  | one s a ih =>
    intro ho h
    have hs : ¬ s < 0 := by have := ho.1; omega
    rw [Tr.sub, Tr.flat, ih ho.2 (fun x hx => h x (List.mem_cons_of_mem _ hx)), Tr.flat]
    simp [Wb.App, hs]
  | two s a b iha ihb =>
    intro ho h
    have hs : ¬ s < 0 := by have := ho.1; omega
    rw [Tr.sub, Tr.flat, iha ho.2.1 (fun x hx => h x (List.mem_cons_of_mem _ (List.mem_append_left _ hx))), ihb ho.2.2 (fun x hx => h x (List.mem_cons_of_mem _ (List.mem_append_right _ hx))), Tr.flat]
    simp [Wb.App, hs]

/-- Two terms made plain, and back. -/
theorem Tm.plain_back {X Y : List Int} (eX : Tm.err X = 0) (eY : Tm.err Y = 0) : ∃ q : Int → Int, (∀ s, q s < 0) ∧ X = (Tm.plain X).map (Tr.nm q) ∧ Y = (Tm.plain2 X Y).map (Tr.nm q) := by
  have kX := Tm.err_all eX
  have kY := Tm.err_all eY
  obtain ⟨S, hS⟩ : ∃ S, S = Tm.seenFrom (Tm.seenFrom [] X) Y := ⟨_, rfl⟩
  have hneg : ∀ x ∈ S, -8 ≤ x ∧ x < 0 := by rw [hS]; exact Sn.seen_neg Y _ kY (Sn.seen_neg X [] kX (fun x hx => by simp at hx))
  obtain ⟨r, hr⟩ := Sn.seen_pre Y (Tm.seenFrom [] X)
  have pX : Tm.plain X = X.map (Sn.ren S) := by
    have := Sn.plain_map X [] r
    rw [← hr, ← hS] at this
    exact this
  have pY : Tm.plain2 X Y = Y.map (Sn.ren S) := by
    have := Sn.plain_map Y (Tm.seenFrom [] X) []
    rw [List.append_nil, ← hS] at this
    exact this
  have back : ∀ s, (s < 0 → S.contains s = true) → Tr.nm (fun v => S[(-1 - v).toNat]?.getD (-1)) (Sn.ren S s) = s := fun s h => by
    unfold Sn.ren Tr.nm
    by_cases hs : s < 0
    · have hlt := Sn.idx_lt (h hs)
      rw [if_pos hs, if_pos (by omega)]
      show S[(-1 - (-1 - (Tm.idx S s : Int))).toNat]?.getD (-1) = s
      rw [show (-1 - (-1 - (Tm.idx S s : Int))).toNat = Tm.idx S s from by omega, List.getElem?_eq_getElem hlt, Option.getD_some]
      exact eq_of_beq (List.findIdx_getElem (xs := S) (p := fun x => x == s) (w := hlt))
    · rw [if_neg hs, if_neg hs]
  refine ⟨fun v => S[(-1 - v).toNat]?.getD (-1), fun s => ?_, ?_, ?_⟩
  · show S[(-1 - s).toNat]?.getD (-1) < 0
    cases hg : S[(-1 - s).toNat]? with
    | none => simp
    | some x => exact (hneg x (List.mem_of_getElem? hg)).2
  · rw [pX, List.map_map]
    refine (List.map_id X).symm.trans (List.map_congr_left fun s hs => ?_)
    exact (back s fun h => by rw [hS]; exact Sn.seen_has Y _ s h (.inr (Sn.seen_has X [] s h (.inl hs)))).symm
  · rw [pY, List.map_map]
    refine (List.map_id Y).symm.trans (List.map_congr_left fun s hs => ?_)
    exact (back s fun h => by rw [hS]; exact Sn.seen_has Y _ s h (.inl hs)).symm

end Go.Proofs.Ytgeknojpcjadkaa

namespace Go.Proofs.Ytgeknojpcjadkaa
open Go.Proofs Go.RowKit Go.Shelf

/-- At each place: passed over, no meeting, or a pair in the list. -/
theorem Tm.Laps.each {L1 R1 L2 R2 : List Int} {pass : Nat → Bool} {n : Nat} {l : PairL} (h : Tm.Laps L1 R1 L2 R2 pass n l) : ∀ m, m < n → pass m = true ∨ (∃ val, Tm.MeetSays [(Tm.part L1 m, L2)] 0 false val) ∨
    (∃ val, Tm.MeetSays [(Tm.part L1 m, L2)] 0 true val ∧ Tm.prtErr val L1 R1 (m : Int) R2 = 0 ∧ Tm.prtVal val L1 R1 (m : Int) R2 ∈ l) := by
  induction h with
  | zero => intro m hm; omega
  | @pass k l _ hp ih =>
    intro m hm
    rcases Nat.lt_or_ge m k with h1 | h1
    · exact ih m h1
    · obtain rfl : m = k := by omega
      exact .inl hp
  | @no k l val _ _ hs ih =>
    intro m hm
    rcases Nat.lt_or_ge m k with h1 | h1
    · exact ih m h1
    · obtain rfl : m = k := by omega
      exact .inr (.inl ⟨val, hs⟩)
  | @yes k l val _ _ hs he ih =>
    intro m hm
    rcases Nat.lt_or_ge m k with h1 | h1
    · rcases ih m h1 with h | h | ⟨v, a, b, c⟩
      · exact .inl h
      · exact .inr (.inl h)
      · exact .inr (.inr ⟨v, a, b, List.mem_append_left _ c⟩)
    · obtain rfl : m = k := by omega
      exact .inr (.inr ⟨val, hs, he, List.mem_append_right _ (List.mem_singleton.2 rfl)⟩)

/-- The pairs of each two rules are in the list of all. -/
theorem Tm.AllTo.has {rs : RuleL} {n j : Nat} {l : PairL} (h : Tm.AllTo rs n j l) : ∀ a b, b < rs.length → (a < n ∨ (a = n ∧ b < j)) → ∃ ps, Tm.OfSays rs (a : Int) (b : Int) 0 ps ∧ ∀ x ∈ ps, x ∈ l := by
  induction h with
  | zero => intro a b _ h; omega
  | @next i j l ps _ _ hs ih =>
    intro a b hb h
    by_cases e : a = i ∧ b = j
    · obtain ⟨rfl, rfl⟩ := e
      exact ⟨ps, hs, fun x hx => List.mem_append_right _ hx⟩
    · obtain ⟨qs, h1, h2⟩ := ih a b hb (by omega)
      exact ⟨qs, h1, fun x hx => List.mem_append_left _ (h2 x hx)⟩
  | @row i l _ ih =>
    intro a b hb h
    exact ih a b hb (by omega)

theorem Tm.joinL_all {rs : RuleL} : ∀ {ps : PairL} {er : Int}, Tm.joinL rs ps = (true, er) → ∀ p ∈ ps, Tm.joinIs rs p.1 p.2 = true := by
  intro ps
  induction ps with
  | nil => intro er _ p hp; cases hp
  | cons q l ih =>
    intro er h p hp
    rw [Tm.joinL] at h
    by_cases hq : Tm.joinIs rs q.1 q.2 = true
    · rw [if_pos hq] at h
      rcases List.mem_cons.1 hp with rfl | hp
      · exact hq
      · exact ih h p hp
    · rw [if_neg hq] at h
      cases h

/-- If all pairs meet: each pair of each two rules does. -/
theorem Tm.JoinSays.all {rs : RuleL} {er : Int} (h : Tm.JoinSays rs true er) : ∀ a b, a < rs.length → b < rs.length → ∃ ps, Tm.OfSays rs (a : Int) (b : Int) 0 ps ∧ ∀ p ∈ ps, Tm.joinIs rs p.1 p.2 = true := by
  intro a b ha hb
  obtain ⟨er', ps, h1, ⟨_, h2, _⟩ | ⟨rfl, h2⟩⟩ := h
  · cases h2
  · rcases h1 with ⟨l, hA, ⟨_, _, rfl⟩ | ⟨_, e, _⟩⟩ | ⟨_, _, _, _, _, _, _, _, h3, _⟩
    · obtain ⟨qs, q1, q2⟩ := hA.has a b hb (by omega)
      exact ⟨qs, q1, fun p hp => Tm.joinL_all h2.symm p (q2 p hp)⟩
    · omega
    · exact absurd rfl h3

end Go.Proofs.Ytgeknojpcjadkaa

namespace Go.Proofs.Ytgeknojpcjadkaa
open Go.Proofs Go.RowKit Go.Shelf

theorem Cx.fill_ok {C : Cx} {u : Tr} (h : (C.fill u).ok) : u.ok := by
  induction C with
  | hole => exact h
  | one s C ih => exact ih h.2
  | twoL s C b ih => exact ih h.2.1
  | twoR s a C ih => exact ih h.2.2
theorem Cx.fill_len (C : Cx) (u : Tr) : C = .hole ∨ u.flat.length < (C.fill u).flat.length := by
  induction C with
  | hole => exact .inl rfl
  | one s C ih =>
    right
    rcases ih with rfl | h
    · simp [Cx.fill, Tr.flat]
    · simp [Cx.fill, Tr.flat]; omega
  | twoL s C b ih =>
    right
    rcases ih with rfl | h
    · simp [Cx.fill, Tr.flat]; omega
    · simp [Cx.fill, Tr.flat]; omega
  | twoR s a C ih =>
    right
    rcases ih with rfl | h
    · simp [Cx.fill, Tr.flat]; omega
    · simp [Cx.fill, Tr.flat]; omega
theorem Cx.hole_of {C : Cx} {u : Tr} (h : C.fill u = u) : C = .hole := by
  rcases C.fill_len u with h' | h'
  · exact h'
  · rw [h] at h'; omega
theorem Tr.sub_back {f g : Int → Tr} : ∀ {x : Tr}, x.ok → x.sub f = x.sub g → ∀ s ∈ x.flat, s < 0 → f s = g s := by
  intro x
  induction x with
  | leaf s =>
    intro _ h x hx h0
    rw [Tr.flat, List.mem_singleton] at hx
    subst hx
    simpa only [Tr.sub, if_pos h0] using h
  | one s a ih =>
    intro ho h x hx h0
    simp only [Tr.sub, Tr.one.injEq, true_and] at h
    rcases List.mem_cons.1 hx with rfl | hx
    · have := ho.1; omega
    · exact ih ho.2 h x hx h0
  | two s a b iha ihb =>
    intro ho h x hx h0
    simp only [Tr.sub, Tr.two.injEq, true_and] at h
    rcases List.mem_cons.1 hx with rfl | hx
    · have := ho.1; omega
    · rcases List.mem_append.1 hx with hx | hx
      · exact iha ho.2.1 h.1 x hx h0
      · exact ihb ho.2.2 h.2 x hx h0

end Go.Proofs.Ytgeknojpcjadkaa

namespace Go.Proofs.Ytgeknojpcjadkaa
open Go.Proofs Go.RowKit Go.Shelf

theorem Cx.sub_congr {f h : Int → Tr} {u : Tr} : ∀ (C : Cx), (∀ s ∈ (C.fill u).flat, s < 0 → f s = h s) → C.sub f = C.sub h := by
  intro C
  induction C with
  | hole => intro _; rfl
  | one s C ih => intro H; simp only [Cx.sub, ih (fun s hs => H s (List.mem_cons_of_mem _ hs))]
  | twoL s C b ih => intro H; simp only [Cx.sub, ih (fun s hs => H s (List.mem_cons_of_mem _ (List.mem_append_left _ hs))), Tr.sub_congr (x := b) (fun s hs => H s (List.mem_cons_of_mem _ (List.mem_append_right _ hs)))]
  | twoR s a C ih => intro H; simp only [Cx.sub, ih (fun s hs => H s (List.mem_cons_of_mem _ (List.mem_append_right _ hs))), Tr.sub_congr (x := a) (fun s hs => H s (List.mem_cons_of_mem _ (List.mem_append_left _ hs)))]
theorem Tr.Rules.idx {rs : RuleL} {Rs : List (Tr × Tr)} (hR : Tr.Rules rs Rs) {l r : Tr} (hm : (l, r) ∈ Rs) : ∃ k, k < rs.length ∧ rs[k]?.getD ([], []) = (l.flat, r.flat) ∧ Rs[k]? = some (l, r) := by
  obtain ⟨k, hk, e⟩ := List.getElem_of_mem hm
  refine ⟨k, by rw [← hR.1]; simpa using hk, ?_, by rw [List.getElem?_eq_getElem hk, e]⟩
  rw [← hR.1, List.getElem?_map, List.getElem?_eq_getElem hk, e]
  rfl
theorem Cx.fill_in {C : Cx} {u v : Tr} (h : (C.fill u).ok) (hv : v.ok) : (C.fill v).ok := by
  induction C with
  | hole => exact hv
  | one s C ih => exact ⟨h.1, ih h.2⟩
  | twoL s C b ih => exact ⟨h.1, ih h.2.1, h.2.2⟩
  | twoR s a C ih => exact ⟨h.1, h.2.1, ih h.2.2⟩
theorem Tr.rule_in {L R : List Int} (h : R.any (freeIn L) = false) : ∀ s ∈ R, s < 0 → s ∈ L := fun s hs h0 => by
  rw [List.any_eq_false] at h
  have := h s hs
  unfold freeIn at this
  rw [decide_eq_true h0] at this
  exact Tm.hasB_mem (by simpa using this)
/-- The other names. -/
def Tr.far (x : Tr) : Tr := x.sub (fun s => .leaf (s - 4))
theorem Tr.far_ok {x : Tr} (h : x.ok) : x.far.ok := Tr.sub_ok (fun s hs => by show s - 4 < 2; omega) h
theorem Tr.far_flat {x : Tr} (h : x.ok) : x.far.flat = Tm.others x.flat := (Tr.sub_names (q := fun s => s - 4) x h).trans rfl
theorem Tr.far_sub {f g : Int → Tr} {x : Tr} (hv : ∀ s ∈ x.flat, -4 ≤ s ∧ s < 6) : x.far.sub (fun v => if -4 ≤ v then f v else g (v + 4)) = x.sub g := by
  unfold Tr.far
  rw [Tr.sub_sub]
  refine Tr.sub_congr fun s hs h0 => ?_
  have := hv s hs
  rw [Tr.sub, if_pos (by omega)]
  show (if -4 ≤ s - 4 then f (s - 4) else g (s - 4 + 4)) = g s
  rw [if_neg (by omega), show s - 4 + 4 = s from by omega]

end Go.Proofs.Ytgeknojpcjadkaa

namespace Go.Proofs.Ytgeknojpcjadkaa
open Go.Proofs Go.RowKit Go.Shelf

theorem Tr.lap_pair {S : List Int × List Int → Prop} {rs : RuleL} {Rs : List (Tr × Tr)} (hR : Tr.Rules rs Rs) (hr : Tm.rulesErr rs = 0) (hj : ∀ a b, a < rs.length → b < rs.length → ∃ ps, Tm.OfSays rs (a : Int) (b : Int) 0 ps ∧ ∀ p ∈ ps, S p) :
    ∀ l1 r1 l2 r2, (l1, r1) ∈ Rs → (l2, r2) ∈ Rs → ∀ C u f g, Cx.fill C u = l1 → 0 ≤ u.sy → Tr.Oks f → Tr.Oks g → u.sub f = l2.sub g → r1.sub f = (C.sub f).fill (r2.sub g) ∨ ∃ (P Q : List Int) (x y : Tr) (h : Int → Tr), S (P, Q) ∧ x.ok ∧ y.ok ∧ x.flat = P ∧ y.flat = Q ∧ Tr.Oks h ∧ x.sub h = (C.sub f).fill (r2.sub g) ∧ y.sub h = r1.sub f := by
  intro l1 r1 l2 r2 hm1 hm2 C u f g hC hu hf hg he
  obtain ⟨a, ha, ea, ga⟩ := hR.idx hm1
  obtain ⟨b, hb, eb, gb⟩ := hR.idx hm2
  obtain ⟨_, hall⟩ := Tm.rulesErr_ok hr
  have ra := hall a ha
  have rb := hall b hb
  rw [ea] at ra
  rw [eb] at rb
  obtain ⟨eL1, eR1, hv1⟩ := Tm.ruleErr_ok ra
  obtain ⟨eL2, eR2, _⟩ := Tm.ruleErr_ok rb
  obtain ⟨vL1, vR1⟩ := Tm.rule_vars ra
  obtain ⟨vL2, vR2⟩ := Tm.rule_vars rb
  have o1 := hR.2 _ hm1
  have o2 := hR.2 _ hm2
  have hu' : u.ok := Cx.fill_ok (C := C) (by rw [hC]; exact o1.1)
  obtain ⟨pre, suf, hpre⟩ := C.flat
  have eL : l1.flat = pre ++ (u.flat ++ suf) := by rw [← hC, hpre]
  have hpart : Tm.part l1.flat pre.length = u.flat := by rw [eL]; exact (Tr.part_of hu' pre suf).2
  have hmlt : pre.length < l1.flat.length := by rw [eL]; have := u.flat_pos; simp; omega
  obtain ⟨H, hH⟩ : ∃ H : Int → Tr, H = fun v => if -4 ≤ v then f v else g (v + 4) := ⟨_, rfl⟩
  have okH : Tr.Oks H := fun v hv => by
    rw [hH]
    show (if -4 ≤ v then f v else g (v + 4)).ok
    split
    · exact hf v hv
    · exact hg _ (by omega)
  have nearH : ∀ s, -4 ≤ s → f s = H s := fun s h4 => by rw [hH]; exact (if_pos h4).symm
  have memu : ∀ s ∈ u.flat, s ∈ l1.flat := fun s hs => by rw [eL]; exact List.mem_append_right _ (List.mem_append_left _ hs)
  have uH : u.sub f = u.sub H := Tr.sub_congr fun s hs _ => nearH s (vL1 s (memu s hs)).1
  have CH : C.sub f = C.sub H := Cx.sub_congr (u := u) C fun s hs _ => nearH s (vL1 s (by rw [← hC]; exact hs)).1
  have rH : r1.sub f = r1.sub H := Tr.sub_congr fun s hs _ => nearH s (vR1 s hs).1
  have l2H : l2.far.sub H = l2.sub g := by rw [hH]; exact Tr.far_sub vL2
  have r2H : r2.far.sub H = r2.sub g := by rw [hH]; exact Tr.far_sub vR2
  obtain ⟨θ, hθ⟩ : ∃ θ : Wb.Sb, θ = fun v => (H v).flat := ⟨_, rfl⟩
  have tθ : Wb.TermSb θ := fun s hs => by rw [hθ]; exact Tr.run1 (okH s hs)
  have appH : ∀ x : Tr, x.ok → (x.sub H).flat = Wb.App θ x.flat := fun x hx => Tr.sub_app x hx fun s _ _ => by rw [hθ]
  have hSame : Wb.Same [(Tm.part l1.flat pre.length, Tm.others l2.flat)] 1 θ := fun j hj' => by
    obtain rfl : j = 0 := by omega
    show Wb.App θ (Tm.part l1.flat pre.length) = Wb.App θ (Tm.others l2.flat)
    rw [hpart, ← appH u hu', ← uH, he, ← l2H, appH _ (Tr.far_ok o2.1), Tr.far_flat o2.1]
  obtain ⟨ps, hO, hjo⟩ := hj a b ha hb
  rcases hO with ⟨h1, _⟩ | ⟨_, h2, _⟩ | ⟨_, a', b', _, _, ea', eb', hL⟩
  · exact absurd hr h1
  · exact absurd ⟨by omega, by omega, by omega, by omega⟩ h2
  · obtain rfl : a = a' := by omega
    obtain rfl : b = b' := by omega
    rw [ea, eb] at hL
    rcases hL with ⟨_, hL⟩ | ⟨hL, _⟩
    · rcases hL.each pre.length hmlt with hp | ⟨val, hno⟩ | ⟨val, hyes, hpe, hin⟩
      · have hs : l1.flat[pre.length]?.getD 0 = u.sy := by
          rw [eL, List.getElem?_append_right (Nat.le_refl _), Nat.sub_self, List.getElem?_append_left u.flat_pos]
          exact Tr.sym u
        unfold Tm.passB at hp
        rw [hs, decide_eq_false (by omega), Bool.false_or, Bool.and_eq_true, decide_eq_true_eq, decide_eq_true_eq] at hp
        obtain ⟨hp0, hab⟩ := hp
        obtain rfl : a = b := by omega
        obtain rfl : pre = [] := List.eq_nil_of_length_eq_zero hp0
        obtain rfl : l1 = u := (Tr.inj o1.1 (l := []) (m := suf) hu' (by rw [List.append_nil, eL]; rfl)).1
        obtain rfl : C = .hole := Cx.hole_of hC
        rw [ga] at gb
        cases gb
        have hb' := Tr.sub_back o1.1 he
        have : r1.sub f = r1.sub g := Tr.sub_congr fun s hs h0 => hb' s (Tr.rule_in hv1.2.2.2 s hs h0) h0
        exact .inl this
      · rcases hno with ⟨h1, h2, _⟩ | ⟨_, h2, _⟩ | ⟨_, _, _, _, _, h2, _⟩ | ⟨_, _, _, _, h2, _⟩
        · exact absurd h2.symm h1
        · exact absurd hSame (h2 θ tθ)
        · cases h2
        · omega
      · rcases hyes with ⟨h1, h2, _⟩ | ⟨_, _, _, h2, _⟩ | ⟨_, σ, hM, _, _, _, rfl⟩ | ⟨_, _, _, _, h2, _⟩
        · exact absurd h2.symm h1
        · cases h2
        · have key : ∀ v : Int, ∃ y : Tr, y.ok ∧ (-8 ≤ v → v < 0 → y.flat = σ v) := fun v => by
            by_cases hv : -8 ≤ v ∧ v < 0
            · obtain ⟨y, y1, y2⟩ := Tr.of (fun s hs => (hM.vars v hv.1 hv.2 s hs).2) (hM.term v hv.2)
              exact ⟨y, y1, fun _ _ => y2⟩
            · exact ⟨.leaf 0, by simp [Tr.ok], fun h1 h2 => absurd ⟨h1, h2⟩ hv⟩
          obtain ⟨K, hK⟩ := Classical.axiomOfChoice key
          have okK : Tr.Oks K := fun v _ => (hK v).1
          have KH : ∀ v, -8 ≤ v → v < 0 → (K v).sub H = H v := fun v h8 h0 => by
            refine Tr.flat_inj (Tr.sub_ok okH (hK v).1) (okH v h0) ?_
            rw [appH _ (hK v).1, (hK v).2 h8 h0, ← hM.most θ tθ hSame v h8 h0, hθ]
          have subKH : ∀ x : Tr, (∀ s ∈ x.flat, -8 ≤ s) → (x.sub K).sub H = x.sub H := fun x hx => by
            rw [Tr.sub_sub]
            exact Tr.sub_congr fun s hs h0 => KH s (hx s hs) h0
          have flatK : ∀ x : Tr, x.ok → (∀ s ∈ x.flat, -8 ≤ s) → (x.sub K).flat = Tm.applied (Tm.sbL σ) x.flat := fun x hx h8 => by
            refine Tr.sub_flat x hx fun s hs h0 => ?_
            have := h8 s hs
            rw [(hK s).2 this h0]
            unfold Tm.piece
            rw [if_pos h0, Tm.sbL_at σ (by omega), show (-1 - ((-1 - s).toNat : Int)) = s from by omega]
          have farge : ∀ s ∈ r2.far.flat, -8 ≤ s := fun s hs => by
            rw [Tr.far_flat o2.2] at hs
            unfold Tm.others at hs
            obtain ⟨x, hx, rfl⟩ := List.mem_map.1 hs
            have := vR2 x hx
            unfold Tm.oth
            split <;> omega
          have fillf : (C.fill r2.far).flat = Tm.put l1.flat pre.length (Tm.others r2.flat) := by rw [hpre, eL, Tr.put_of hu', Tr.far_flat o2.2]
          have fillge : ∀ s ∈ (C.fill r2.far).flat, -8 ≤ s := fun s hs => by
            rw [hpre] at hs
            rcases List.mem_append.1 hs with hs | hs
            · have := vL1 s (by rw [eL]; exact List.mem_append_left _ hs); omega
            · rcases List.mem_append.1 hs with hs | hs
              · exact farge s hs
              · have := vL1 s (by rw [eL]; exact List.mem_append_right _ (List.mem_append_right _ hs)); omega
          have fillok : (C.fill r2.far).ok := Cx.fill_in (by rw [hC]; exact o1.1) (Tr.far_ok o2.2)
          have hgoal1 : ((C.fill r2.far).sub K).sub H = (C.sub f).fill (r2.sub g) := by rw [subKH _ fillge, Cx.fill_sub, CH, r2H]
          have hgoal2 : (r1.sub K).sub H = r1.sub f := by rw [subKH _ (fun s hs => by have := vR1 s hs; omega), rH]
          have hj1 := hjo _ hin
          unfold Tm.prtVal at hj1
          rw [if_pos hpe] at hj1
          unfold Tm.prtErr at hpe
          have p0 : Tm.putErr l1.flat (pre.length : Int) (Tm.others r2.flat) = 0 := by
            by_cases h : Tm.putErr l1.flat (pre.length : Int) (Tm.others r2.flat) = 0
            · exact h
            · rw [if_neg h] at hpe; exact hpe
          rw [if_pos p0] at hpe
          have p1 : Tm.applyErr (Tm.sbL σ) (Tm.putVal l1.flat (pre.length : Int) (Tm.others r2.flat)) = 0 := by
            by_cases h : Tm.applyErr (Tm.sbL σ) (Tm.putVal l1.flat (pre.length : Int) (Tm.others r2.flat)) = 0
            · exact h
            · rw [if_neg h] at hpe; exact hpe
          rw [if_pos p1] at hpe
          have vA : Tm.applyVal (Tm.sbL σ) (Tm.putVal l1.flat (pre.length : Int) (Tm.others r2.flat)) = ((C.fill r2.far).sub K).flat := by
            unfold Tm.applyVal
            rw [if_pos p1, flatK _ fillok fillge, fillf]
            unfold Tm.putVal
            rw [if_pos p0]
            rfl
          have vB : Tm.applyVal (Tm.sbL σ) r1.flat = (r1.sub K).flat := by
            unfold Tm.applyVal
            rw [if_pos hpe, flatK _ o1.2 (fun s hs => by have := vR1 s hs; omega)]
          have eA := Tm.applyVal_err p1
          have eB := Tm.applyVal_err hpe
          rw [vA] at eA
          rw [vB] at eB
          rw [vA, vB] at hj1
          obtain ⟨_, _, _, _, e3, e4⟩ := Tm.plain_ren eA eB
          obtain ⟨q, q0, q1, q2⟩ := Tm.plain_back eA eB
          obtain ⟨xP, x1, x2⟩ := Tr.of_err e3
          obtain ⟨xQ, y1, y2⟩ := Tr.of_err e4
          have okq : Tr.Oks (fun s => .leaf (q s)) := fun s _ => by show q s < 2; have := q0 s; omega
          have hx : xP.sub (fun s => .leaf (q s)) = (C.fill r2.far).sub K := Tr.flat_inj (Tr.sub_ok okq x1) (Tr.sub_ok okK fillok) (by rw [Tr.sub_names xP x1, x2]; exact q1.symm)
          have hy : xQ.sub (fun s => .leaf (q s)) = r1.sub K := Tr.flat_inj (Tr.sub_ok okq y1) (Tr.sub_ok okK o1.2) (by rw [Tr.sub_names xQ y1, y2]; exact q2.symm)
          refine .inr ⟨_, _, xP, xQ, fun s => Tr.sub H (.leaf (q s)), hj1, x1, y1, x2, y2, fun s hs => Tr.sub_ok okH (okq s hs), ?_, ?_⟩
          · rw [← hgoal1, ← hx, Tr.sub_sub]
          · rw [← hgoal2, ← hy, Tr.sub_sub]
        · omega
    · exact absurd rfl hL.1

end Go.Proofs.Ytgeknojpcjadkaa

namespace Go.Proofs.Ytgeknojpcjadkaa
open Go.Proofs Go.RowKit Go.Shelf

theorem low_of (rk : List Int) : ∃ B : Int, ∀ k : Nat, B ≤ rk[k]?.getD 0 := by
  induction rk with
  | nil => exact ⟨0, fun k => by simp⟩
  | cons x l ih =>
    obtain ⟨B, h⟩ := ih
    refine ⟨min x B, fun k => ?_⟩
    cases k with
    | zero => simp only [List.getElem?_cons_zero, Option.getD_some]; omega
    | succ k => have := h k; simp only [List.getElem?_cons_succ]; omega
end Go.Proofs.Ytgeknojpcjadkaa

namespace Go.Proofs.Ytgeknojpcjadkaa
open Go.Proofs Go.RowKit Go.Shelf

def Tr.LapMeetP (rs : List (Tr × Tr)) (P : Tr → Prop) : Prop := ∀ l1 r1 l2 r2, (l1, r1) ∈ rs → (l2, r2) ∈ rs → ∀ C u f g, Cx.fill C u = l1 → 0 ≤ u.sy → Tr.Oks f → Tr.Oks g → u.sub f = l2.sub g → P (l1.sub f) → Tr.Meets rs (r1.sub f) ((C.sub f).fill (r2.sub g))
theorem Tr.root_meetP {rs : List (Tr × Tr)} {P : Tr → Prop} (hrs : Tr.RsOk rs) (hl : Tr.LapMeetP rs P) {l r : Tr} {f : Int → Tr} (hm : (l, r) ∈ rs) (hf : Tr.Oks f) (hp : P (l.sub f)) {z : Tr} (h : Tr.St rs (l.sub f) z) : Tr.Meets rs (r.sub f) z := by
  rcases Tr.peak hrs hf l z h with ⟨C, u, l2, r2, g, q1, q2, q3, q4, q5, q6⟩ | ⟨f', q1, q2, q3⟩
  · rw [q6]
    exact hl l r l2 r2 hm q3 C u f g q1 q2 hf q4 q5 hp
  · exact ⟨r.sub f', Tr.Sts.vars q2 r, q3.trans (Tr.St.root l r f' hm q1).many⟩

/-- Where steps part, they meet again. -/
theorem Tr.local_meetP {rs : List (Tr × Tr)} {P : Tr → Prop} (k1 : ∀ s a, P (.one s a) → P a) (k2 : ∀ s a b, P (.two s a b) → P a ∧ P b) (hrs : Tr.RsOk rs) (hl : Tr.LapMeetP rs P) : ∀ (x y z : Tr), P x → Tr.St rs x y → Tr.St rs x z → Tr.Meets rs y z := by
  intro x
  induction x with
  | leaf s =>
    intro y z hp h1 h2
    rcases h1.inv with ⟨l, r, g, hm, hg, e1, e2⟩ | ⟨_, _, _, e, _⟩ | ⟨_, _, _, _, e, _⟩ | ⟨_, _, _, _, e, _⟩
    · rw [e1] at h2 hp; rw [e2]; exact Tr.root_meetP hrs hl hm hg hp h2
    · cases e
    · cases e
    · cases e
  | one s a ih =>
    intro y z hp h1 h2
    rcases h1.inv with ⟨l, r, g, hm, hg, e1, e2⟩ | ⟨s1, a1, b1, e1, e2, i1⟩ | ⟨_, _, _, _, e, _⟩ | ⟨_, _, _, _, e, _⟩
    · rw [e1] at h2 hp; rw [e2]; exact Tr.root_meetP hrs hl hm hg hp h2
    · rcases h2.inv with ⟨l, r, g, hm, hg, f1, f2⟩ | ⟨s2, a2, b2, f1, f2, i2⟩ | ⟨_, _, _, _, e, _⟩ | ⟨_, _, _, _, e, _⟩
      · rw [f1] at h1 hp; rw [f2]; exact (Tr.root_meetP hrs hl hm hg hp h1).symm
      · cases e1
        cases f1
        obtain ⟨c, c1, c2⟩ := ih _ _ (k1 _ _ hp) i1 i2
        exact ⟨.one s c, by rw [e2]; exact c1.one s, by rw [f2]; exact c2.one s⟩
      · cases e
      · cases e
    · cases e
    · cases e
  | two s a b iha ihb =>
    intro y z hp h1 h2
    rcases h1.inv with ⟨l, r, g, hm, hg, e1, e2⟩ | ⟨_, _, _, e, _⟩ | ⟨s1, a1, b1, c1, e1, e2, i1⟩ | ⟨s1, a1, b1, c1, e1, e2, i1⟩
    · rw [e1] at h2 hp; rw [e2]; exact Tr.root_meetP hrs hl hm hg hp h2
    · cases e
    · rcases h2.inv with ⟨l, r, g, hm, hg, f1, f2⟩ | ⟨_, _, _, e, _⟩ | ⟨s2, a2, b2, c2, f1, f2, i2⟩ | ⟨s2, a2, b2, c2, f1, f2, i2⟩
      · rw [f1] at h1 hp; rw [f2]; exact (Tr.root_meetP hrs hl hm hg hp h1).symm
      · cases e
      · cases e1
        cases f1
        obtain ⟨c, d1, d2⟩ := iha _ _ (k2 _ _ _ hp).1 i1 i2
        exact ⟨.two s c b, by rw [e2]; exact d1.two s (.refl _), by rw [f2]; exact d2.two s (.refl _)⟩
      · cases e1
        cases f1
        exact ⟨.two s b1 b2, by rw [e2]; exact (Tr.Sts.refl _).two s i2.many, by rw [f2]; exact i1.many.two s (.refl _)⟩
    · rcases h2.inv with ⟨l, r, g, hm, hg, f1, f2⟩ | ⟨_, _, _, e, _⟩ | ⟨s2, a2, b2, c2, f1, f2, i2⟩ | ⟨s2, a2, b2, c2, f1, f2, i2⟩
      · rw [f1] at h1 hp; rw [f2]; exact (Tr.root_meetP hrs hl hm hg hp h1).symm
      · cases e
      · cases e1
        cases f1
        exact ⟨.two s b2 b1, by rw [e2]; exact i2.many.two s (.refl _), by rw [f2]; exact (Tr.Sts.refl _).two s i1.many⟩
      · cases e1
        cases f1
        obtain ⟨c, d1, d2⟩ := ihb _ _ (k2 _ _ _ hp).2 i1 i2
        exact ⟨.two s a c, by rw [e2]; exact (Tr.Sts.refl _).two s d1, by rw [f2]; exact (Tr.Sts.refl _).two s d2⟩


/-- Linked by steps to and fro, all of them in P. -/
inductive Tr.Con (rs : List (Tr × Tr)) (P : Tr → Prop) : Tr → Tr → Prop
  | refl (a : Tr) : P a → Tr.Con rs P a a
  | down (a b c : Tr) : P a → Tr.St rs a b → Tr.Con rs P b c → Tr.Con rs P a c
  | up (a b c : Tr) : P a → Tr.St rs b a → Tr.Con rs P b c → Tr.Con rs P a c
theorem Tr.Con.first {rs : List (Tr × Tr)} {P : Tr → Prop} {a b : Tr} (h : Tr.Con rs P a b) : P a := by
  cases h with
  | refl _ h => exact h
  | down _ _ _ h _ _ => exact h
  | up _ _ _ h _ _ => exact h
theorem Tr.Con.trans {rs : List (Tr × Tr)} {P : Tr → Prop} {a b c : Tr} (h : Tr.Con rs P a b) (h' : Tr.Con rs P b c) : Tr.Con rs P a c := by
  induction h with
  | refl _ _ => exact h'
  | down a b d hp hs _ ih => exact .down _ _ _ hp hs (ih h')
  | up a b d hp hs _ ih => exact .up _ _ _ hp hs (ih h')
theorem Tr.Con.symm {rs : List (Tr × Tr)} {P : Tr → Prop} {a b : Tr} (h : Tr.Con rs P a b) : Tr.Con rs P b a := by
  induction h with
  | refl a hp => exact .refl a hp
  | down a b d hp hs h ih => exact ih.trans (.up _ _ _ h.first hs (.refl _ hp))
  | up a b d hp hs h ih => exact ih.trans (.down _ _ _ h.first hs (.refl _ hp))
theorem Tr.Con.mono {rs : List (Tr × Tr)} {P Q : Tr → Prop} (hPQ : ∀ x, P x → Q x) {a b : Tr} (h : Tr.Con rs P a b) : Tr.Con rs Q a b := by
  induction h with
  | refl a hp => exact .refl a (hPQ _ hp)
  | down a b d hp hs _ ih => exact .down _ _ _ (hPQ _ hp) hs ih
  | up a b d hp hs _ ih => exact .up _ _ _ (hPQ _ hp) hs ih
/-- Links whose trees all have one end: both ends meet. -/
theorem Tr.Con.meets {rs : List (Tr × Tr)} {P : Tr → Prop} (hc : ∀ x y z, P x → Tr.Sts rs x y → Tr.Sts rs x z → Tr.Meets rs y z) {a b : Tr} (h : Tr.Con rs P a b) : Tr.Meets rs a b := by
  induction h with
  | refl a _ => exact ⟨a, .refl _, .refl _⟩
  | down a b d _ hs _ ih =>
    obtain ⟨c, h1, h2⟩ := ih
    exact ⟨c, .step _ _ _ hs h1, h2⟩
  | up a b d hp hs h ih =>
    obtain ⟨c, h1, h2⟩ := ih
    obtain ⟨e, e1, e2⟩ := hc b a c h.first hs.many h1
    exact ⟨e, e1, h2.trans e2⟩
theorem Tr.G.kid1 {r : Int → Int} {s : Int} {a : Tr} (h : (Tr.one s a).ok) : Tr.G r (.one s a) a := (Tr.G.iff h h.2).2 (.inl ⟨a, by simp [Tr.kids], .inl rfl⟩)
theorem Tr.G.kid2 {r : Int → Int} {s : Int} {a b : Tr} (h : (Tr.two s a b).ok) : Tr.G r (.two s a b) a ∧ Tr.G r (.two s a b) b := ⟨(Tr.G.iff h h.2.1).2 (.inl ⟨a, by simp [Tr.kids], .inl rfl⟩), (Tr.G.iff h h.2.2).2 (.inl ⟨b, by simp [Tr.kids], .inl rfl⟩)⟩
/-- CONNECTED BELOW: then all that lap over meet. -/
theorem Tr.lap_below {rs : List (Tr × Tr)} {r : Int → Int} {B : Int} (h0 : ∀ s, 0 ≤ s → B ≤ r s) (hrs : Tr.RsOk rs) (hg : ∀ p ∈ rs, Tr.G r p.1 p.2)
    (hl : ∀ l1 r1 l2 r2, (l1, r1) ∈ rs → (l2, r2) ∈ rs → ∀ C u f g, Cx.fill C u = l1 → 0 ≤ u.sy → Tr.Oks f → Tr.Oks g → u.sub f = l2.sub g → Tr.Con rs (fun t => t.ok ∧ Tr.G r (l1.sub f) t) (r1.sub f) ((C.sub f).fill (r2.sub g))) : Tr.LapMeet rs := by
  have key : ∀ s : Tr, s.ok → Tr.LapMeetP rs (fun t => t = s) := by
    intro s hs
    have acc := Tr.ends h0 s hs
    induction acc with
    | intro s _ ih =>
      intro l1 r1 l2 r2 m1 m2 C u f g q1 q2 q3 q4 q5 hp
      have hc := hl l1 r1 l2 r2 m1 m2 C u f g q1 q2 q3 q4 q5
      rw [show l1.sub f = s from hp] at hc
      have hlp : Tr.LapMeetP rs (fun t => t.ok ∧ Tr.G r s t) := fun a1 b1 a2 b2 n1 n2 C u f g p1 p2 p3 p4 p5 hp => ih (a1.sub f) hp hp.1 a1 b1 a2 b2 n1 n2 C u f g p1 p2 p3 p4 p5 rfl
      have hloc := Tr.local_meetP (P := fun t => t.ok ∧ Tr.G r s t) (fun _ _ h => ⟨h.1.2, h.2.trans (Tr.G.kid1 h.1)⟩) (fun _ _ _ h => ⟨⟨h.1.2.1, h.2.trans (Tr.G.kid2 h.1).1⟩, ⟨h.1.2.2, h.2.trans (Tr.G.kid2 h.1).2⟩⟩) hrs hlp
      exact hc.meets fun x y z hx hy hz => Tr.newman (P := fun t => t.ok ∧ Tr.G r s t) (fun a b h hs => ⟨hs.ok hrs h.1, h.2.trans (hs.down hrs hg h.1)⟩) hloc (Tr.St.ends h0 hrs hg hx.1) hx y z hy hz
  intro l1 r1 l2 r2 m1 m2 C u f g q1 q2 q3 q4 q5
  exact key (l1.sub f) (Tr.sub_ok q3 (hrs _ m1).1) l1 r1 l2 r2 m1 m2 C u f g q1 q2 q3 q4 q5 rfl

end Go.Proofs.Ytgeknojpcjadkaa

namespace Go.Proofs.Ytgeknojpcjadkaa
open Go.Proofs Go.RowKit Go.Shelf

def Tr.Le (r : Int → Int) (s t : Tr) : Prop := t.ok ∧ (t = s ∨ Tr.G r s t)
theorem Tr.Le.self {r : Int → Int} {s : Tr} (h : s.ok) : Tr.Le r s s := ⟨h, .inl rfl⟩
theorem Tr.Le.trans {r : Int → Int} {a b c : Tr} (h : Tr.Le r a b) (h' : Tr.Le r b c) : Tr.Le r a c := by
  refine ⟨h'.1, ?_⟩
  rcases h'.2 with rfl | g'
  · exact h.2
  · rcases h.2 with rfl | g
    · exact .inr g'
    · exact .inr (g.trans g')
theorem Tr.Rules.mem {rs : RuleL} {Rs : List (Tr × Tr)} (hR : Tr.Rules rs Rs) {x y : Tr} (hx : x.ok) (hy : y.ok) (h : (x.flat, y.flat) ∈ rs) : (x, y) ∈ Rs := by
  rw [← hR.1, List.mem_map] at h
  obtain ⟨p, hp, e⟩ := h
  have o := hR.2 p hp
  rw [Prod.mk.injEq] at e
  have e1 := Tr.flat_inj o.1 hx e.1
  have e2 := Tr.flat_inj o.2 hy e.2
  rw [← e1, ← e2]
  exact hp
theorem Tr.Rules.back {rs : RuleL} {Rs : List (Tr × Tr)} (hR : Tr.Rules rs Rs) {x y : Tr} (h : (x, y) ∈ Rs) : (x.flat, y.flat) ∈ rs := by
  rw [← hR.1]
  exact List.mem_map.2 ⟨(x, y), h, rfl⟩
theorem Tr.Rules.down {rk : List Int} {rs : RuleL} {Rs : List (Tr × Tr)} (hR : Tr.Rules rs Rs) (h1 : Tm.fallsErr rk rs = 0) (h2 : Tm.fallsVal rk rs = true) : ∀ p ∈ Rs, Tr.G (Tm.rankOf rk) p.1 p.2 := fun p hp => by
  obtain ⟨hr, hab⟩ := Tm.falls_each h1 h2
  have hm := hR.back (x := p.1) (y := p.2) hp
  have hk : Tm.rankErr rk = 0 := by
    unfold Tm.fallsErr at h1
    by_cases h : Tm.rankErr rk = 0
    · exact h
    · rw [if_neg h] at h1; exact absurd h1 h
  obtain ⟨e1, e2⟩ := Tm.rules_right hr _ hm
  exact (Tm.aboveVal_iff (Tm.aboveErr_of hk e1 e2)).1 (hab _ hm)

/-- A pair whose two, whatever variables become and wherever they stand, are linked, and nothing on the way is above both. -/
def Tr.Held (r : Int → Int) (Rn : List (Tr × Tr)) (P Q : List Int) : Prop := ∀ x y : Tr, x.ok → y.ok → x.flat = P → y.flat = Q → ∀ (C : Cx) (h : Int → Tr), Tr.Oks h → (C.fill (x.sub h)).ok → (C.fill (y.sub h)).ok →
  Tr.Con Rn (fun t => Tr.Le r (C.fill (x.sub h)) t ∨ Tr.Le r (C.fill (y.sub h)) t) (C.fill (x.sub h)) (C.fill (y.sub h))
/-- Rules whose steps are so linked. -/
def Tr.Kept (r : Int → Int) (Rn : List (Tr × Tr)) (rs : RuleL) : Prop := ∀ Rs, Tr.Rules rs Rs → ∀ s t : Tr, s.ok → Tr.St Rs s t → Tr.Con Rn (Tr.Le r s) s t
theorem Tr.Kept.many {r : Int → Int} {Rn : List (Tr × Tr)} {rs : RuleL} (hk : Tr.Kept r Rn rs) {Rs : List (Tr × Tr)} (hR : Tr.Rules rs Rs) (hg : ∀ p ∈ Rs, Tr.G r p.1 p.2) {s t : Tr} (h : Tr.Sts Rs s t) : s.ok → Tr.Con Rn (Tr.Le r s) s t := by
  induction h with
  | refl s => intro hs; exact .refl _ (.self hs)
  | step a b c h1 _ ih =>
    intro hs
    have hb := h1.ok hR.2 hs
    have hle : Tr.Le r a b := ⟨hb, .inr (h1.down hR.2 hg hs)⟩
    exact (hk Rs hR a b hs h1).trans ((ih hb).mono fun x hx => hle.trans hx)
theorem Tr.Con.last {rs : List (Tr × Tr)} {P : Tr → Prop} {a b : Tr} (h : Tr.Con rs P a b) : P b := h.symm.first
/-- A step by a rule that was made plain of two. -/
theorem Tr.plain_step {rs : RuleL} {Rs : List (Tr × Tr)} (hR : Tr.Rules rs Rs) {x y : Tr} (hx : x.ok) (hy : y.ok) (ex : Tm.err x.flat = 0) (ey : Tm.err y.flat = 0) (hm : (Tm.plain x.flat, Tm.plain2 x.flat y.flat) ∈ rs) (C : Cx) {h : Int → Tr} (hh : Tr.Oks h) : Tr.St Rs (C.fill (x.sub h)) (C.fill (y.sub h)) := by
  obtain ⟨_, _, _, _, e3, e4⟩ := Tm.plain_ren ex ey
  obtain ⟨q, q0, q1, q2⟩ := Tm.plain_back ex ey
  obtain ⟨xP, x1, x2⟩ := Tr.of_err e3
  obtain ⟨xQ, y1, y2⟩ := Tr.of_err e4
  have okq : Tr.Oks (fun s => .leaf (q s)) := fun s _ => by show q s < 2; have := q0 s; omega
  have hx' : xP.sub (fun s => .leaf (q s)) = x := Tr.flat_inj (Tr.sub_ok okq x1) hx (by rw [Tr.sub_names xP x1, x2]; exact q1.symm)
  have hy' : xQ.sub (fun s => .leaf (q s)) = y := Tr.flat_inj (Tr.sub_ok okq y1) hy (by rw [Tr.sub_names xQ y1, y2]; exact q2.symm)
  rw [← x2, ← y2] at hm
  have hst := Tr.St.root xP xQ (fun s => Tr.sub h (.leaf (q s))) (hR.mem x1 y1 hm) (fun s hs => Tr.sub_ok hh (okq s hs))
  rw [← hx', ← hy', Tr.sub_sub, Tr.sub_sub]
  exact hst.fill C
/-- The first pair, out of its two forms. -/
theorem Tr.held_forms {r : Int → Int} {Rn : List (Tr × Tr)} {rs : RuleL} {Rs : List (Tr × Tr)} (hR : Tr.Rules rs Rs) (hg : ∀ p ∈ Rs, Tr.G r p.1 p.2) (hk : Tr.Kept r Rn rs) {P Q : List Int} (f1 : (Tm.form rs P).2.2 = 0) (f2 : (Tm.form rs Q).2.2 = 0) (hh : Tr.Held r Rn (Tm.form rs P).1 (Tm.form rs Q).1) : Tr.Held r Rn P Q := by
  intro x y hx hy ex ey C h ho okX okY
  subst ex
  subst ey
  obtain ⟨x', x1, x2, x3, _⟩ := Tr.form hR hx f1
  obtain ⟨y', y1, y2, y3, _⟩ := Tr.form hR hy f2
  have sX := (x3.sub ho).fill C
  have sY := (y3.sub ho).fill C
  have cX := hk.many hR hg sX okX
  have cY := hk.many hR hg sY okY
  have lX := cX.last
  have lY := cY.last
  have mid := hh x' y' x1 y1 x2 y2 C h ho lX.1 lY.1
  refine (cX.mono fun t ht => .inl ht).trans ((mid.mono fun t ht => ?_).trans (cY.symm.mono fun t ht => .inr ht))
  rcases ht with ht | ht
  · exact .inl (lX.trans ht)
  · exact .inr (lY.trans ht)
theorem Tr.Held.symm {r : Int → Int} {Rn : List (Tr × Tr)} {P Q : List Int} (h : Tr.Held r Rn P Q) : Tr.Held r Rn Q P := by
  intro x y hx hy ex ey C g ho okX okY
  exact (h y x hy hx ey ex C g ho okY okX).symm.mono fun t ht => ht.symm
theorem Tr.Held.same (r : Int → Int) (Rn : List (Tr × Tr)) (P : List Int) : Tr.Held r Rn P P := by
  intro x y hx hy ex ey C g ho okX okY
  have := Tr.flat_inj hx hy (ex.trans ey.symm)
  subst this
  exact .refl _ (.inl (.self okX))
theorem Tr.held_plain {r : Int → Int} {Rn : List (Tr × Tr)} {rs : RuleL} (hr : Tm.rulesErr rs = 0) (hk : Tr.Kept r Rn rs) {P Q : List Int} (eP : Tm.err P = 0) (eQ : Tm.err Q = 0) (hm : (Tm.plain P, Tm.plain2 P Q) ∈ rs) : Tr.Held r Rn P Q := by
  intro x y hx hy ex ey C h ho okX okY
  subst ex
  subst ey
  obtain ⟨Rs, hR⟩ := Tr.Rules.err hr
  exact (hk Rs hR _ _ okX (Tr.plain_step hR hx hy eP eQ hm C ho)).mono fun t ht => .inl ht
theorem Tr.held_dir {r : Int → Int} {Rn : List (Tr × Tr)} {rs : RuleL} (hr : Tm.rulesErr rs = 0) (hk : Tr.Kept r Rn rs) {rk P Q : List Int} (eP : Tm.err P = 0) (eQ : Tm.err Q = 0) (h : (Tm.dir rk P Q).1 = 0) (hm : ((Tm.dir rk P Q).2.1, (Tm.dir rk P Q).2.2) ∈ rs) : Tr.Held r Rn P Q := by
  unfold Tm.dir at h hm
  by_cases h1 : Tm.aboveVal rk P Q = true
  · rw [if_pos h1] at h hm
    have h' : Tm.plErr P = 0 := h
    unfold Tm.plVal at hm
    rw [if_pos h'] at hm
    exact Tr.held_plain hr hk eP eQ hm
  · rw [if_neg h1] at h hm
    by_cases h2 : Tm.aboveVal rk Q P = true
    · rw [if_pos h2] at h hm
      have h' : Tm.plErr Q = 0 := h
      unfold Tm.plVal at hm
      rw [if_pos h'] at hm
      exact (Tr.held_plain hr hk eQ eP hm).symm
    · rw [if_neg h2] at h
      exact absurd h (by decide)
/-- A turn, backwards. -/
theorem Tr.turn_kept {Rn : List (Tr × Tr)} {rk : List Int} {rs : RuleL} {ps : PairL} {rs' : RuleL} {ps' : PairL} (h : Tm.TurnSays rk rs ps 0 rs' ps') (hk : Tr.Kept (Tm.rankOf rk) Rn rs') (hq : ∀ x ∈ ps', Tr.Held (Tm.rankOf rk) Rn x.1 x.2) :
    Tr.Kept (Tm.rankOf rk) Rn rs ∧ ∀ x ∈ ps, Tr.Held (Tm.rankOf rk) Rn x.1 x.2 := by
  obtain ⟨w1, w2⟩ := Tm.turn_falls h
  obtain ⟨hr', _⟩ := Tm.falls_each w1 w2
  rcases h with ⟨h, h', _⟩ | ⟨h0, p, l, rfl, h⟩
  · exact absurd h'.symm h
  obtain ⟨k1, k2, k3, k4, k5, k6, k7⟩ := Tm.turnErr_zero h0
  obtain ⟨Rs0, hR0⟩ := Tr.Rules.err k4
  have hg0 := hR0.down k5 k6
  rcases h with ⟨h, h', _⟩ | ⟨hj, he, _, rfl, rfl⟩ | ⟨_, _, h, h', _⟩ | ⟨hj, he, hd, hw⟩
  · exact absurd h'.symm h
  · obtain ⟨f1, f2⟩ := Tm.joinErr_two hj
    refine ⟨hk, fun x hx => ?_⟩
    rcases List.mem_cons.1 hx with rfl | hx
    · exact Tr.held_forms hR0 hg0 hk f1 f2 (by rw [he]; exact Tr.Held.same _ _ _)
    · exact hq x hx
  · exact absurd h'.symm h
  · obtain ⟨f1, f2⟩ := Tm.joinErr_two hj
    have e1 := Tm.form_right f1
    have e2 := Tm.form_right f2
    have hdh : ((Tm.dir rk (Tm.form rs p.1).1 (Tm.form rs p.2).1).2.1, (Tm.dir rk (Tm.form rs p.1).1 (Tm.form rs p.2).1).2.2) ∈ rs' → Tr.Held (Tm.rankOf rk) Rn (Tm.form rs p.1).1 (Tm.form rs p.2).1 := fun hm => Tr.held_dir hr' hk e1 e2 hd hm
    generalize (Tm.dir rk (Tm.form rs p.1).1 (Tm.form rs p.2).1).2.1 = L at hw hdh
    generalize (Tm.dir rk (Tm.form rs p.1).1 (Tm.form rs p.2).1).2.2 = R at hw hdh
    rcases hw with ⟨_, h, _⟩ | ⟨_, e, q, _, h⟩
    · exact absurd h (by decide)
    · rcases h with ⟨h, h', _⟩ | ⟨_, _, h, _⟩ | ⟨rfl, _, _, rfl, rfl⟩
      · exact absurd h'.symm h
      · exact absurd h (by decide)
      · have hkr : Tr.Kept (Tm.rankOf rk) Rn rs := by
          intro Rs hR s t hs hst
          have hg := hR.down k5 k6
          have ht := hst.ok hR.2 hs
          have hlt := hst.down hR.2 hg hs
          obtain ⟨C, a, b, f, hm, hf, e1', e2'⟩ := hst.cx
          have ho := hR.2 _ hm
          have hmr := hR.back hm
          rcases (Tm.stay_or (L := L) _).1 hmr with hm' | hm'
          · obtain ⟨Rs', hR'⟩ := Tr.Rules.err hr'
            refine hk Rs' hR' s t hs ?_
            rw [e1', e2']
            exact (Tr.St.root a b f (hR'.mem ho.1 ho.2 (List.mem_append.2 (.inl hm'))) hf).fill C
          · have := hq _ (List.mem_append.2 (.inl (List.mem_append.2 (.inr hm')))) a b ho.1 ho.2 rfl rfl C f hf (by rw [← e1']; exact hs) (by rw [← e2']; exact ht)
            rw [← e1', ← e2'] at this
            refine this.mono fun u hu => ?_
            rcases hu with hu | hu
            · exact hu
            · exact Tr.Le.trans ⟨ht, .inr hlt⟩ hu
        refine ⟨hkr, fun x hx => ?_⟩
        rcases List.mem_cons.1 hx with rfl | hx
        · exact Tr.held_forms hR0 hg0 hkr f1 f2 (hdh (by simp))
        · exact hq x (List.mem_append.2 (.inl (List.mem_append.2 (.inl hx))))

end Go.Proofs.Ytgeknojpcjadkaa
