/-
  PLAIN MATHEMATICS: steps on trees of any size, by rules; Newman's lemma; steps that part meet again if those do that lap over (the critical pair lemma). · PLAIN MATHEMATICS: the critical pair lemma on trees. · rules.Falls; rules.replaced. · rules.replaced; lists of steps in new memory, one more behind them. · PLAIN MATHEMATICS of steps: at which places which rules fit, and what comes of each. · PLAIN MATHEMATICS of RulesTrue: which steps there are; how many; each goes to what is below, and brings no new variable. · PLAIN MATHEMATICS: from lists of signs to trees: each right term is one tree's; what variables become, parts, what is put in a place, and steps. · Lists of steps in new memory: what keeps them; one more behind them, within a round. · signs.Places: the rounds are numbered; the body may leave, or panic. · What stands while rules.Steps goes through places and rules; two results that lie in boxes.
-/
import Derived.Test.YtgeknojpcjadkaaBjt9
import Derived.OwnWalkIn
import Derived.RangeFuncBox
import Derived.Test.YtgeknojpcjadkaaBjt5
namespace Go.Proofs.Ytgeknojpcjadkaa
open Go.Proofs Go.RowKit Go.Shelf

/-- What comes if each variable becomes that. -/
def Tr.sub (f : Int → Tr) : Tr → Tr
  | .leaf s => if s < 0 then f s else .leaf s
  | .one s a => .one s (a.sub f)
  | .two s a b => .two s (a.sub f) (b.sub f)
def Tr.Oks (f : Int → Tr) : Prop := ∀ s, s < 0 → (f s).ok
theorem Tr.sub_ok {f : Int → Tr} (hf : Tr.Oks f) {x : Tr} : x.ok → (x.sub f).ok := by
  induction x with
  | leaf s =>
    intro h
    rw [Tr.sub]
    split
    · exact hf s ‹_›
    · exact h
  | one s a ih => exact fun h => ⟨h.1, ih h.2⟩
  | two s a b iha ihb => exact fun h => ⟨h.1, iha h.2.1, ihb h.2.2⟩
theorem Tr.sub_sub (f g : Int → Tr) (x : Tr) : (x.sub f).sub g = x.sub (fun s => (f s).sub g) := by
  induction x with
  | leaf s =>
    by_cases h : s < 0
    · simp only [Tr.sub, if_pos h]
    · simp only [Tr.sub, if_neg h]
  | one s a ih => simp only [Tr.sub, ih]
  | two s a b iha ihb => simp only [Tr.sub, iha, ihb]
theorem Tr.sub_congr {f g : Int → Tr} {x : Tr} (h : ∀ s ∈ x.flat, s < 0 → f s = g s) : x.sub f = x.sub g := by
  induction x with
  | leaf s =>
    simp only [Tr.sub]
    split
    · exact h s (by simp [Tr.flat]) ‹_›
    · rfl
  | one s a ih => simp only [Tr.sub, ih (fun s hs => h s (List.mem_cons_of_mem _ hs))]
  | two s a b iha ihb => simp only [Tr.sub, iha (fun s hs => h s (List.mem_cons_of_mem _ (List.mem_append_left _ hs))), ihb (fun s hs => h s (List.mem_cons_of_mem _ (List.mem_append_right _ hs)))]

theorem Tr.sub_sy {f : Int → Tr} {x : Tr} (h : 0 ≤ x.sy) : (x.sub f).sy = x.sy ∧ (x.sub f).kids = x.kids.map (Tr.sub f) := by
  cases x with
  | leaf s => simp only [Tr.sy] at h; rw [Tr.sub, if_neg (by omega)]; exact ⟨rfl, rfl⟩
  | one s a => exact ⟨rfl, rfl⟩
  | two s a b => exact ⟨rfl, rfl⟩

theorem Tr.kid_len {x c : Tr} (hc : c ∈ x.kids) : c.flat.length < x.flat.length := by
  cases x with
  | leaf s => cases hc
  | one s a => rw [List.mem_singleton.1 hc]; simp [Tr.flat]
  | two s a b =>
    rcases List.mem_cons.1 hc with rfl | hc
    · simp [Tr.flat]; omega
    · rw [List.mem_singleton.1 hc]; simp [Tr.flat]; omega

/-- Above stays above. -/
theorem Tr.G.sub_n {r : Int → Int} {f : Int → Tr} (hf : Tr.Oks f) : ∀ (n : Nat) (a b : Tr), a.flat.length + b.flat.length < n → a.ok → b.ok → Tr.G r a b → Tr.G r (a.sub f) (b.sub f) := by
  intro n
  induction n with
  | zero => intro a b h; omega
  | succ n ih =>
    intro a b hn ha hb hg
    obtain ⟨s1, k1⟩ := Tr.sub_sy (f := f) (Tr.G.pos hg)
    refine (Tr.G.iff (Tr.sub_ok hf ha) (Tr.sub_ok hf hb)).2 ?_
    rcases (Tr.G.iff ha hb).1 hg with ⟨c, hc, h⟩ | ⟨h1, h2, h3, h4⟩
    · refine .inl ⟨c.sub f, by rw [k1]; exact List.mem_map.2 ⟨c, hc, rfl⟩, ?_⟩
      rcases h with rfl | h
      · exact .inl rfl
      · exact .inr (ih c b (by have := Tr.kid_len hc; omega) (Tr.kids_ok ha c hc) hb h)
    · obtain ⟨s2, k2⟩ := Tr.sub_sy (f := f) h2
      refine .inr ⟨by rw [s1]; exact h1, by rw [s2]; exact h2, fun c hc => ?_, ?_⟩
      · rw [k2] at hc
        obtain ⟨c, hc', rfl⟩ := List.mem_map.1 hc
        clear hc
        have hc := hc'
        exact ih a c (by have := Tr.kid_len hc; omega) ha (Tr.kids_ok hb c hc) (h3 c hc)
      · rw [s1, s2]
        rcases h4 with h4 | ⟨e, m, c, d, e1, e2, hl, hg'⟩
        · exact .inl h4
        · have hc := List.mem_of_getElem? e1
          have hd := List.mem_of_getElem? e2
          refine .inr ⟨by rw [s1, s2]; exact e, m, c.sub f, d.sub f, by rw [k1, List.getElem?_map, e1]; rfl, by rw [k2, List.getElem?_map, e2]; rfl, fun l hlm => ?_, ?_⟩
          · rw [k1, k2, List.getElem?_map, List.getElem?_map, hl l hlm]
          · exact ih c d (by have := Tr.kid_len hc; have := Tr.kid_len hd; omega) (Tr.kids_ok ha c hc) (Tr.kids_ok hb d hd) hg'
theorem Tr.G.sub {r : Int → Int} {f : Int → Tr} (hf : Tr.Oks f) {a b : Tr} (ha : a.ok) (hb : b.ok) (h : Tr.G r a b) : Tr.G r (a.sub f) (b.sub f) := Tr.G.sub_n hf _ a b (Nat.lt_succ_self _) ha hb h
theorem Tr.G.one {r : Int → Int} {s : Int} {a b : Tr} (hs : s = 2 ∨ s = 3) (ha : a.ok) (hb : b.ok) (h : Tr.G r a b) : Tr.G r (.one s a) (.one s b) := by
  refine (Tr.G.iff (a := .one s a) (b := .one s b) ⟨hs, ha⟩ ⟨hs, hb⟩).2 (.inr ⟨by simp only [Tr.sy]; omega, by simp only [Tr.sy]; omega, fun c hc => ?_, .inr ⟨rfl, 0, a, b, rfl, rfl, (fun l hl => by omega), h⟩⟩)
  rw [List.mem_singleton.1 hc]
  exact (Tr.G.iff (a := .one s a) ⟨hs, ha⟩ hb).2 (.inl ⟨a, List.mem_cons_self, .inr h⟩)
theorem Tr.G.twoL {r : Int → Int} {s : Int} {a b c : Tr} (hs : s = 4 ∨ s = 5) (ha : a.ok) (hb : b.ok) (hc : c.ok) (h : Tr.G r a b) : Tr.G r (.two s a c) (.two s b c) := by
  refine (Tr.G.iff (a := .two s a c) (b := .two s b c) ⟨hs, ha, hc⟩ ⟨hs, hb, hc⟩).2 (.inr ⟨by simp only [Tr.sy]; omega, by simp only [Tr.sy]; omega, fun d hd => ?_, .inr ⟨rfl, 0, a, b, rfl, rfl, (fun l hl => by omega), h⟩⟩)
  rcases List.mem_cons.1 hd with rfl | hd
  · exact (Tr.G.iff (a := .two s a c) ⟨hs, ha, hc⟩ hb).2 (.inl ⟨a, List.mem_cons_self, .inr h⟩)
  · rw [List.mem_singleton.1 hd]
    exact (Tr.G.iff (a := .two s a c) ⟨hs, ha, hc⟩ hc).2 (.inl ⟨c, List.mem_cons_of_mem _ List.mem_cons_self, .inl rfl⟩)
theorem Tr.G.twoR {r : Int → Int} {s : Int} {a b c : Tr} (hs : s = 4 ∨ s = 5) (ha : a.ok) (hb : b.ok) (hc : c.ok) (h : Tr.G r a b) : Tr.G r (.two s c a) (.two s c b) := by
  refine (Tr.G.iff (a := .two s c a) (b := .two s c b) ⟨hs, hc, ha⟩ ⟨hs, hc, hb⟩).2 (.inr ⟨by simp only [Tr.sy]; omega, by simp only [Tr.sy]; omega, fun d hd => ?_, .inr ⟨rfl, 1, a, b, rfl, rfl, (fun l hl => ?_), h⟩⟩)
  · rcases List.mem_cons.1 hd with rfl | hd
    · exact (Tr.G.iff (a := .two s d a) ⟨hs, hc, ha⟩ hc).2 (.inl ⟨d, List.mem_cons_self, .inl rfl⟩)
    · rw [List.mem_singleton.1 hd]
      exact (Tr.G.iff (a := .two s c a) ⟨hs, hc, ha⟩ hb).2 (.inl ⟨a, List.mem_cons_of_mem _ List.mem_cons_self, .inr h⟩)
  · obtain rfl : l = 0 := by omega
    rfl

/-- One step. -/
inductive Tr.St (rs : List (Tr × Tr)) : Tr → Tr → Prop
  | root (l r : Tr) (f : Int → Tr) : (l, r) ∈ rs → Tr.Oks f → Tr.St rs (l.sub f) (r.sub f)
  | one (s : Int) (a b : Tr) : Tr.St rs a b → Tr.St rs (.one s a) (.one s b)
  | twoL (s : Int) (a b c : Tr) : Tr.St rs a b → Tr.St rs (.two s a c) (.two s b c)
  | twoR (s : Int) (a b c : Tr) : Tr.St rs a b → Tr.St rs (.two s c a) (.two s c b)
/-- Any number of steps. -/
inductive Tr.Sts (rs : List (Tr × Tr)) : Tr → Tr → Prop
  | refl (a : Tr) : Tr.Sts rs a a
  | step (a b c : Tr) : Tr.St rs a b → Tr.Sts rs b c → Tr.Sts rs a c
theorem Tr.Sts.trans {rs : List (Tr × Tr)} {a b c : Tr} (h : Tr.Sts rs a b) (h' : Tr.Sts rs b c) : Tr.Sts rs a c := by
  induction h with
  | refl a => exact h'
  | step a b d h1 _ ih => exact .step _ _ _ h1 (ih h')
theorem Tr.St.many {rs : List (Tr × Tr)} {a b : Tr} (h : Tr.St rs a b) : Tr.Sts rs a b := .step _ _ _ h (.refl _)
theorem Tr.Sts.map {rs : List (Tr × Tr)} {F : Tr → Tr} (hF : ∀ a b, Tr.St rs a b → Tr.St rs (F a) (F b)) {a b : Tr} (h : Tr.Sts rs a b) : Tr.Sts rs (F a) (F b) := by
  induction h with
  | refl a => exact .refl _
  | step a b d h1 _ ih => exact .step _ _ _ (hF _ _ h1) ih
theorem Tr.Sts.two {rs : List (Tr × Tr)} (s : Int) {a b c d : Tr} (h : Tr.Sts rs a b) (h' : Tr.Sts rs c d) : Tr.Sts rs (.two s a c) (.two s b d) :=
  (h.map (F := fun x => .two s x c) (fun _ _ h => .twoL _ _ _ _ h)).trans (h'.map (F := fun x => .two s b x) (fun _ _ h => .twoR _ _ _ _ h))
theorem Tr.Sts.one {rs : List (Tr × Tr)} (s : Int) {a b : Tr} (h : Tr.Sts rs a b) : Tr.Sts rs (.one s a) (.one s b) := h.map (F := fun x => .one s x) (fun _ _ h => .one _ _ _ h)
def Tr.Meets (rs : List (Tr × Tr)) (a b : Tr) : Prop := ∃ c, Tr.Sts rs a c ∧ Tr.Sts rs b c
theorem Tr.Meets.symm {rs : List (Tr × Tr)} {a b : Tr} (h : Tr.Meets rs a b) : Tr.Meets rs b a := by obtain ⟨c, h1, h2⟩ := h; exact ⟨c, h2, h1⟩
theorem Tr.St.sub {rs : List (Tr × Tr)} {f : Int → Tr} (hf : Tr.Oks f) {a b : Tr} (h : Tr.St rs a b) : Tr.St rs (a.sub f) (b.sub f) := by
  induction h with
  | root l r g hm hg =>
    rw [Tr.sub_sub, Tr.sub_sub]
    exact .root l r _ hm (fun s hs => Tr.sub_ok hf (hg s hs))
  | one s a b _ ih => exact .one _ _ _ ih
  | twoL s a b c _ ih => exact .twoL _ _ _ _ ih
  | twoR s a b c _ ih => exact .twoR _ _ _ _ ih
theorem Tr.Sts.sub {rs : List (Tr × Tr)} {f : Int → Tr} (hf : Tr.Oks f) {a b : Tr} (h : Tr.Sts rs a b) : Tr.Sts rs (a.sub f) (b.sub f) := h.map (F := Tr.sub f) (fun _ _ h => h.sub hf)
theorem Tr.Meets.sub {rs : List (Tr × Tr)} {f : Int → Tr} (hf : Tr.Oks f) {a b : Tr} (h : Tr.Meets rs a b) : Tr.Meets rs (a.sub f) (b.sub f) := by obtain ⟨c, h1, h2⟩ := h; exact ⟨_, h1.sub hf, h2.sub hf⟩

/-- What variables become goes on: so does the whole. -/
theorem Tr.Sts.vars {rs : List (Tr × Tr)} {f g : Int → Tr} (h : ∀ s, s < 0 → Tr.Sts rs (f s) (g s)) (x : Tr) : Tr.Sts rs (x.sub f) (x.sub g) := by
  induction x with
  | leaf s =>
    simp only [Tr.sub]
    split
    · exact h s ‹_›
    · exact .refl _
  | one s a ih => exact ih.one s
  | two s a b iha ihb => exact iha.two s ihb

/-- Newman. -/
theorem Tr.newman {rs : List (Tr × Tr)} {P : Tr → Prop} (hP : ∀ x y, P x → Tr.St rs x y → P y) (hloc : ∀ x y z, P x → Tr.St rs x y → Tr.St rs x z → Tr.Meets rs y z) {x : Tr} (hacc : Acc (fun b a : Tr => Tr.St rs a b) x) : P x → ∀ y z, Tr.Sts rs x y → Tr.Sts rs x z → Tr.Meets rs y z := by
  induction hacc with
  | intro x _ ih =>
    intro hx y z hy hz
    cases hy with
    | refl => exact ⟨z, hz, .refl _⟩
    | step _ y1 _ h1 h2 =>
      cases hz with
      | refl => exact ⟨y, .refl _, .step _ _ _ h1 h2⟩
      | step _ z1 _ g1 g2 =>
        obtain ⟨w, hw1, hw2⟩ := hloc x y1 z1 hx h1 g1
        obtain ⟨u, hu1, hu2⟩ := ih y1 h1 (hP _ _ hx h1) y w h2 hw1
        obtain ⟨v, hv1, hv2⟩ := ih z1 g1 (hP _ _ hx g1) u z (hw2.trans hu2) g2
        exact ⟨v, hu1.trans hv1, hv2⟩

end Go.Proofs.Ytgeknojpcjadkaa

namespace Go.Proofs.Ytgeknojpcjadkaa
open Go.Proofs Go.RowKit Go.Shelf

/-- A tree with a hole. -/
inductive Cx
  | hole
  | one (s : Int) (C : Cx)
  | twoL (s : Int) (C : Cx) (b : Tr)
  | twoR (s : Int) (a : Tr) (C : Cx)
def Cx.fill : Cx → Tr → Tr
  | .hole, x => x
  | .one s C, x => .one s (C.fill x)
  | .twoL s C b, x => .two s (C.fill x) b
  | .twoR s a C, x => .two s a (C.fill x)
def Cx.sub (f : Int → Tr) : Cx → Cx
  | .hole => .hole
  | .one s C => .one s (C.sub f)
  | .twoL s C b => .twoL s (C.sub f) (b.sub f)
  | .twoR s a C => .twoR s (a.sub f) (C.sub f)
theorem Cx.fill_sub (f : Int → Tr) (C : Cx) (x : Tr) : (C.fill x).sub f = (C.sub f).fill (x.sub f) := by
  induction C with
  | hole => rfl
  | one s C ih => simp only [Cx.fill, Cx.sub, Tr.sub, ih]
  | twoL s C b ih => simp only [Cx.fill, Cx.sub, Tr.sub, ih]
  | twoR s a C ih => simp only [Cx.fill, Cx.sub, Tr.sub, ih]
theorem Tr.St.fill {rs : List (Tr × Tr)} (C : Cx) {a b : Tr} (h : Tr.St rs a b) : Tr.St rs (C.fill a) (C.fill b) := by
  induction C with
  | hole => exact h
  | one s C ih => exact .one _ _ _ ih
  | twoL s C b ih => exact .twoL _ _ _ _ ih
  | twoR s a C ih => exact .twoR _ _ _ _ ih
theorem Tr.Sts.fill {rs : List (Tr × Tr)} (C : Cx) {a b : Tr} (h : Tr.Sts rs a b) : Tr.Sts rs (C.fill a) (C.fill b) := h.map (F := C.fill) (fun _ _ h => h.fill C)

def Tr.RsOk (rs : List (Tr × Tr)) : Prop := ∀ p ∈ rs, p.1.ok ∧ p.2.ok
theorem Tr.St.ok {rs : List (Tr × Tr)} (hrs : Tr.RsOk rs) {a b : Tr} (h : Tr.St rs a b) : a.ok → b.ok := by
  induction h with
  | root l r g hm hg => exact fun _ => Tr.sub_ok hg (hrs _ hm).2
  | one s a b _ ih => exact fun h => ⟨h.1, ih h.2⟩
  | twoL s a b c _ ih => exact fun h => ⟨h.1, ih h.2.1, h.2.2⟩
  | twoR s a b c _ ih => exact fun h => ⟨h.1, h.2.1, ih h.2.2⟩
theorem Tr.Sts.ok {rs : List (Tr × Tr)} (hrs : Tr.RsOk rs) {a b : Tr} (h : Tr.Sts rs a b) : a.ok → b.ok := by
  induction h with
  | refl a => exact id
  | step a b c h1 _ ih => exact fun h => ih (h1.ok hrs h)
/-- Steps go down. -/
theorem Tr.St.down {rs : List (Tr × Tr)} {r : Int → Int} (hrs : Tr.RsOk rs) (hg : ∀ p ∈ rs, Tr.G r p.1 p.2) {a b : Tr} (h : Tr.St rs a b) : a.ok → Tr.G r a b := by
  induction h with
  | root l r g hm hf => exact fun _ => Tr.G.sub hf (hrs _ hm).1 (hrs _ hm).2 (hg _ hm)
  | one s a b h ih => exact fun ho => Tr.G.one ho.1 ho.2 (h.ok hrs ho.2) (ih ho.2)
  | twoL s a b c h ih => exact fun ho => Tr.G.twoL ho.1 ho.2.1 (h.ok hrs ho.2.1) ho.2.2 (ih ho.2.1)
  | twoR s a b c h ih => exact fun ho => Tr.G.twoR ho.1 ho.2.2 (h.ok hrs ho.2.2) ho.2.1 (ih ho.2.2)
theorem Tr.St.ends {rs : List (Tr × Tr)} {r : Int → Int} {B : Int} (h0 : ∀ s, 0 ≤ s → B ≤ r s) (hrs : Tr.RsOk rs) (hg : ∀ p ∈ rs, Tr.G r p.1 p.2) {x : Tr} (hx : x.ok) : Acc (fun b a : Tr => Tr.St rs a b) x := by
  have h := Tr.ends h0 x hx
  unfold Tr.Ends at h
  induction h with
  | intro x _ ih => exact Acc.intro _ fun b hb => ih b ⟨hb.ok hrs hx, hb.down hrs hg hx⟩ (hb.ok hrs hx)

theorem Tr.St.inv {rs : List (Tr × Tr)} {x z : Tr} (h : Tr.St rs x z) : (∃ l r g, (l, r) ∈ rs ∧ Tr.Oks g ∧ x = l.sub g ∧ z = r.sub g) ∨ (∃ s a b, x = .one s a ∧ z = .one s b ∧ Tr.St rs a b) ∨
    (∃ s a b c, x = .two s a c ∧ z = .two s b c ∧ Tr.St rs a b) ∨ (∃ s a b c, x = .two s c a ∧ z = .two s c b ∧ Tr.St rs a b) := by
  cases h with
  | root l r g hm hg => exact .inl ⟨l, r, g, hm, hg, rfl, rfl⟩
  | one s a b h => exact .inr (.inl ⟨s, a, b, rfl, rfl, h⟩)
  | twoL s a b c h => exact .inr (.inr (.inl ⟨s, a, b, c, rfl, rfl, h⟩))
  | twoR s a b c h => exact .inr (.inr (.inr ⟨s, a, b, c, rfl, rfl, h⟩))

/-- A step in what comes of l: at a symbol of l, or in what a variable became. -/
theorem Tr.peak {rs : List (Tr × Tr)} (hrs : Tr.RsOk rs) {f : Int → Tr} (hf : Tr.Oks f) : ∀ (l z : Tr), Tr.St rs (l.sub f) z →
    (∃ C u l2 r2 g, Cx.fill C u = l ∧ 0 ≤ u.sy ∧ (l2, r2) ∈ rs ∧ Tr.Oks g ∧ u.sub f = l2.sub g ∧ z = (C.sub f).fill (r2.sub g)) ∨ (∃ f', Tr.Oks f' ∧ (∀ s, s < 0 → Tr.Sts rs (f s) (f' s)) ∧ Tr.Sts rs z (l.sub f')) := by
  intro l
  induction l with
  | leaf s =>
    intro z h
    by_cases hs : s < 0
    · right
      rw [Tr.sub, if_pos hs] at h
      refine ⟨fun x => if x = s then z else f x, fun x hx => ?_, fun x hx => ?_, ?_⟩
      · by_cases e : x = s
        · simp only [if_pos e]; exact h.ok hrs (hf s hs)
        · simp only [if_neg e]; exact hf x hx
      · by_cases e : x = s
        · simp only [if_pos e]; rw [e]; exact h.many
        · simp only [if_neg e]; exact .refl _
      · simp only [Tr.sub, if_pos hs, if_true]; exact .refl _
    · left
      have h' := h
      rw [Tr.sub, if_neg hs] at h'
      rcases h'.inv with ⟨l2, r2, g, hm, hg, e1, e2⟩ | ⟨_, _, _, e, _⟩ | ⟨_, _, _, _, e, _⟩ | ⟨_, _, _, _, e, _⟩
      · exact ⟨.hole, .leaf s, l2, r2, g, rfl, by simp only [Tr.sy]; omega, hm, hg, by rw [Tr.sub, if_neg hs]; exact e1, e2⟩
      · cases e
      · cases e
      · cases e
  | one s a ih =>
    intro z h
    by_cases h0 : 0 ≤ s
    · rcases h.inv with ⟨l2, r2, g, hm, hg, e1, e2⟩ | ⟨s', a', b', e, e2, h'⟩ | ⟨_, _, _, _, e, _⟩ | ⟨_, _, _, _, e, _⟩
      · exact .inl ⟨.hole, .one s a, l2, r2, g, rfl, h0, hm, hg, e1, e2⟩
      · rw [Tr.sub] at e
        cases e
        rcases ih _ h' with ⟨C, u, l2, r2, g, q1, q2, q3, q4, q5, q6⟩ | ⟨f', q1, q2, q3⟩
        · exact .inl ⟨.one s C, u, l2, r2, g, by rw [Cx.fill, q1], q2, q3, q4, q5, by rw [e2, q6]; rfl⟩
        · exact .inr ⟨f', q1, q2, by rw [e2]; exact q3.one s⟩
      · cases e
      · cases e
    · rcases h.inv with ⟨l2, r2, g, hm, hg, e1, e2⟩ | ⟨s', a', b', e, e2, h'⟩ | ⟨_, _, _, _, e, _⟩ | ⟨_, _, _, _, e, _⟩
      · exfalso
        have hok := Tr.sub_ok hg (hrs _ hm).1
        rw [← e1, Tr.sub] at hok
        have := hok.1
        omega
      · rw [Tr.sub] at e
        cases e
        rcases ih _ h' with ⟨C, u, l2, r2, g, q1, q2, q3, q4, q5, q6⟩ | ⟨f', q1, q2, q3⟩
        · exact .inl ⟨.one s C, u, l2, r2, g, by rw [Cx.fill, q1], q2, q3, q4, q5, by rw [e2, q6]; rfl⟩
        · exact .inr ⟨f', q1, q2, by rw [e2]; exact q3.one s⟩
      · cases e
      · cases e
  | two s a b iha ihb =>
    intro z h
    rcases h.inv with ⟨l2, r2, g, hm, hg, e1, e2⟩ | ⟨s', a', b', e, _⟩ | ⟨s', a', b', c', e, e2, h'⟩ | ⟨s', a', b', c', e, e2, h'⟩
    · have h0 : 0 ≤ s := by
        have hok := Tr.sub_ok hg (hrs _ hm).1
        rw [← e1, Tr.sub] at hok
        have := hok.1
        omega
      exact .inl ⟨.hole, .two s a b, l2, r2, g, rfl, h0, hm, hg, e1, e2⟩
    · cases e
    · rw [Tr.sub] at e
      cases e
      rcases iha _ h' with ⟨C, u, l2, r2, g, q1, q2, q3, q4, q5, q6⟩ | ⟨f', q1, q2, q3⟩
      · exact .inl ⟨.twoL s C b, u, l2, r2, g, by rw [Cx.fill, q1], q2, q3, q4, q5, by rw [e2, q6]; rfl⟩
      · exact .inr ⟨f', q1, q2, by rw [e2]; exact q3.two s (Tr.Sts.vars q2 b)⟩
    · rw [Tr.sub] at e
      cases e
      rcases ihb _ h' with ⟨C, u, l2, r2, g, q1, q2, q3, q4, q5, q6⟩ | ⟨f', q1, q2, q3⟩
      · exact .inl ⟨.twoR s a C, u, l2, r2, g, by rw [Cx.fill, q1], q2, q3, q4, q5, by rw [e2, q6]; rfl⟩
      · exact .inr ⟨f', q1, q2, by rw [e2]; exact (Tr.Sts.vars q2 a).two s q3⟩

/-- All that lap over meet. -/
def Tr.LapMeet (rs : List (Tr × Tr)) : Prop := ∀ l1 r1 l2 r2, (l1, r1) ∈ rs → (l2, r2) ∈ rs → ∀ C u f g, Cx.fill C u = l1 → 0 ≤ u.sy → Tr.Oks f → Tr.Oks g → u.sub f = l2.sub g → Tr.Meets rs (r1.sub f) ((C.sub f).fill (r2.sub g))

theorem Tr.root_meet {rs : List (Tr × Tr)} (hrs : Tr.RsOk rs) (hl : Tr.LapMeet rs) {l r : Tr} {f : Int → Tr} (hm : (l, r) ∈ rs) (hf : Tr.Oks f) {z : Tr} (h : Tr.St rs (l.sub f) z) : Tr.Meets rs (r.sub f) z := by
  rcases Tr.peak hrs hf l z h with ⟨C, u, l2, r2, g, q1, q2, q3, q4, q5, q6⟩ | ⟨f', q1, q2, q3⟩
  · rw [q6]
    exact hl l r l2 r2 hm q3 C u f g q1 q2 hf q4 q5
  · exact ⟨r.sub f', Tr.Sts.vars q2 r, q3.trans (Tr.St.root l r f' hm q1).many⟩

/-- Where steps part, they meet again. -/
theorem Tr.local_meet {rs : List (Tr × Tr)} (hrs : Tr.RsOk rs) (hl : Tr.LapMeet rs) : ∀ (x y z : Tr), Tr.St rs x y → Tr.St rs x z → Tr.Meets rs y z := by
  intro x
  induction x with
  | leaf s =>
    intro y z h1 h2
    rcases h1.inv with ⟨l, r, g, hm, hg, e1, e2⟩ | ⟨_, _, _, e, _⟩ | ⟨_, _, _, _, e, _⟩ | ⟨_, _, _, _, e, _⟩
    · rw [e1] at h2; rw [e2]; exact Tr.root_meet hrs hl hm hg h2
    · cases e
    · cases e
    · cases e
  | one s a ih =>
    intro y z h1 h2
    rcases h1.inv with ⟨l, r, g, hm, hg, e1, e2⟩ | ⟨s1, a1, b1, e1, e2, i1⟩ | ⟨_, _, _, _, e, _⟩ | ⟨_, _, _, _, e, _⟩
    · rw [e1] at h2; rw [e2]; exact Tr.root_meet hrs hl hm hg h2
    · rcases h2.inv with ⟨l, r, g, hm, hg, f1, f2⟩ | ⟨s2, a2, b2, f1, f2, i2⟩ | ⟨_, _, _, _, e, _⟩ | ⟨_, _, _, _, e, _⟩
      · rw [f1] at h1; rw [f2]; exact (Tr.root_meet hrs hl hm hg h1).symm
      · cases e1
        cases f1
        obtain ⟨c, c1, c2⟩ := ih _ _ i1 i2
        exact ⟨.one s c, by rw [e2]; exact c1.one s, by rw [f2]; exact c2.one s⟩
      · cases e
      · cases e
    · cases e
    · cases e
  | two s a b iha ihb =>
    intro y z h1 h2
    rcases h1.inv with ⟨l, r, g, hm, hg, e1, e2⟩ | ⟨_, _, _, e, _⟩ | ⟨s1, a1, b1, c1, e1, e2, i1⟩ | ⟨s1, a1, b1, c1, e1, e2, i1⟩
    · rw [e1] at h2; rw [e2]; exact Tr.root_meet hrs hl hm hg h2
    · cases e
    · rcases h2.inv with ⟨l, r, g, hm, hg, f1, f2⟩ | ⟨_, _, _, e, _⟩ | ⟨s2, a2, b2, c2, f1, f2, i2⟩ | ⟨s2, a2, b2, c2, f1, f2, i2⟩
      · rw [f1] at h1; rw [f2]; exact (Tr.root_meet hrs hl hm hg h1).symm
      · cases e
      · cases e1
        cases f1
        obtain ⟨c, d1, d2⟩ := iha _ _ i1 i2
        exact ⟨.two s c b, by rw [e2]; exact d1.two s (.refl _), by rw [f2]; exact d2.two s (.refl _)⟩
      · cases e1
        cases f1
        exact ⟨.two s b1 b2, by rw [e2]; exact (Tr.Sts.refl _).two s i2.many, by rw [f2]; exact i1.many.two s (.refl _)⟩
    · rcases h2.inv with ⟨l, r, g, hm, hg, f1, f2⟩ | ⟨_, _, _, e, _⟩ | ⟨s2, a2, b2, c2, f1, f2, i2⟩ | ⟨s2, a2, b2, c2, f1, f2, i2⟩
      · rw [f1] at h1; rw [f2]; exact (Tr.root_meet hrs hl hm hg h1).symm
      · cases e
      · cases e1
        cases f1
        exact ⟨.two s b2 b1, by rw [e2]; exact i2.many.two s (.refl _), by rw [f2]; exact (Tr.Sts.refl _).two s i1.many⟩
      · cases e1
        cases f1
        obtain ⟨c, d1, d2⟩ := ihb _ _ i1 i2
        exact ⟨.two s a c, by rw [e2]; exact (Tr.Sts.refl _).two s d1, by rw [f2]; exact (Tr.Sts.refl _).two s d2⟩

/-- RULES THAT FALL AND WHOSE PAIRS MEET: whatever comes of one term meets again. -/
theorem Tr.meet_all {rs : List (Tr × Tr)} {r : Int → Int} {B : Int} (h0 : ∀ s, 0 ≤ s → B ≤ r s) (hrs : Tr.RsOk rs) (hg : ∀ p ∈ rs, Tr.G r p.1 p.2) (hl : Tr.LapMeet rs) {x y z : Tr} (hx : x.ok) (hy : Tr.Sts rs x y) (hz : Tr.Sts rs x z) : Tr.Meets rs y z :=
  Tr.newman (P := fun _ => True) (fun _ _ _ _ => trivial) (fun x y z _ h1 h2 => Tr.local_meet hrs hl x y z h1 h2) (Tr.St.ends h0 hrs hg hx) trivial y z hy hz

end Go.Proofs.Ytgeknojpcjadkaa

namespace Go.Proofs.Ytgeknojpcjadkaa
open Go.Proofs Go.RowKit Go.Shelf Go.Maps

/-- F1: is each L above its R? -/
def Tm.fallsB (rk : List Int) (rs : RuleL) : Bool := rs.all fun r => Tm.aboveVal rk r.1 r.2
def Tm.fallsErr (rk : List Int) (rs : RuleL) : Int := if Tm.rankErr rk = 0 then Tm.rulesErr rs else Tm.rankErr rk
def Tm.fallsVal (rk : List Int) (rs : RuleL) : Bool := if Tm.fallsErr rk rs = 0 then Tm.fallsB rk rs else false
theorem Tm.firstRule_zero {rs : RuleL} (h : Tm.firstRule rs = 0) : ∀ k, k < rs.length → Tm.ruleErr (rs[k]?.getD ([], [])).1 (rs[k]?.getD ([], [])).2 = 0 := by
  induction rs with
  | nil => intro k hk; simp at hk
  | cons r l ih =>
    rw [Tm.firstRule] at h
    by_cases h1 : Tm.ruleErr r.1 r.2 = 0
    · rw [if_pos h1] at h
      intro k hk
      cases k with
      | zero => simpa using h1
      | succ k => simpa using ih h k (by simpa using hk)
    · rw [if_neg h1] at h; exact absurd h h1
theorem Tm.rulesErr_ok {rs : RuleL} (h : Tm.rulesErr rs = 0) : rs.length ≤ 8 ∧ ∀ k, k < rs.length → Tm.ruleErr (rs[k]?.getD ([], [])).1 (rs[k]?.getD ([], [])).2 = 0 := by
  unfold Tm.rulesErr at h
  by_cases h8 : 8 < rs.length
  · rw [if_pos h8] at h; omega
  · rw [if_neg h8] at h; exact ⟨by omega, Tm.firstRule_zero h⟩
theorem Tm.ruleErr_ok {L R : List Int} (h : Tm.ruleErr L R = 0) : Tm.err L = 0 ∧ Tm.err R = 0 ∧ L.any foreignB = false ∧ R.any foreignB = false ∧ (0 : Int) ≤ L[0]?.getD 0 ∧ R.any (freeIn L) = false := by
  unfold Tm.ruleErr at h
  by_cases h1 : Tm.err L = 0
  · rw [if_pos h1] at h
    by_cases h2 : Tm.err R = 0
    · rw [if_pos h2] at h
      cases h3 : L.any foreignB with
      | true => rw [h3, if_pos rfl] at h; omega
      | false =>
        rw [h3, if_neg (by decide)] at h
        cases h4 : R.any foreignB with
        | true => rw [h4, if_pos rfl] at h; omega
        | false =>
          rw [h4, if_neg (by decide)] at h
          by_cases h5 : L[0]?.getD 0 < 0
          · rw [if_pos h5] at h; omega
          · rw [if_neg h5] at h
            cases h6 : R.any (freeIn L) with
            | true => rw [h6, if_pos rfl] at h; omega
            | false => exact ⟨h1, h2, rfl, rfl, by omega, rfl⟩
    · rw [if_neg h2] at h; exact absurd h h2
  · rw [if_neg h1] at h; exact absurd h h1
theorem fallsB_snoc {rk : List Int} {rs : RuleL} {k : Nat} (hk : k < rs.length) (h : Tm.fallsB rk (rs.take k) = true) : Tm.fallsB rk (rs.take (k + 1)) = Tm.aboveVal rk (rs[k]?.getD ([], [])).1 (rs[k]?.getD ([], [])).2 := by
  unfold Tm.fallsB at *
  rw [List.take_add_one, List.all_append, h]
  simp [hk]
theorem fallsB_no {rk : List Int} {rs : RuleL} {k : Nat} (hk : k < rs.length) (h : Tm.aboveVal rk (rs[k]?.getD ([], [])).1 (rs[k]?.getD ([], [])).2 = false) : Tm.fallsB rk rs = false := by
  rw [Bool.eq_false_iff]
  intro e
  unfold Tm.fallsB at e
  rw [List.all_eq_true] at e
  have := e rs[k] (List.getElem_mem hk)
  simp only [hk, List.getElem?_eq_getElem, Option.getD_some] at h
  rw [h] at this
  cases this

set_option maxRecDepth 100000 in
set_option maxHeartbeats 1000000 in
theorem rulesFalls_any (rk : List Int) (rs : RuleL) (ar a : Option Addr) (cr cap : Nat) (w : World) (hR : Ints w.heap.size w ar rk) (hI : RulesAt w.heap.size w a rs) :
    Calls Try.prog 18 #[.slice ar rk.length cr, .slice a rs.length cap] w fun e w' => e = .returned (.tuple #[.bool (Tm.fallsVal rk rs), .int .i64 (Tm.fallsErr rk rs)]) ∧ Below w.heap.size w w' := by
  have C1 := orderCheck_any rk ar cr w hR
  have C2 := rulesCheck_any rs a cap w hI
  by_cases h1 : Tm.rankErr rk = 0
  · rw [h1] at C1
    have he : Tm.fallsErr rk rs = Tm.rulesErr rs := by unfold Tm.fallsErr; rw [if_pos h1]
    by_cases h2 : Tm.rulesErr rs = 0
    · rw [h2] at C2
      have hv : Tm.fallsVal rk rs = Tm.fallsB rk rs := by unfold Tm.fallsVal; rw [he, if_pos h2]
      rw [hv, he, h2]
      obtain ⟨h8, hall⟩ := Tm.rulesErr_ok h2
      have h8' : (rs.length : Int) ≤ 8 := by omega
      have HA := hid (fun W (hW : Below w.heap.size w W) k (hk : k < rs.length) aL aR cL cR hL hR2 h3 h4 h5 h6 => orderAbove_any rk (rs[k]?.getD ([], [])).1 (rs[k]?.getD ([], [])).2 ar aL aR cr cL cR W ((hR.below hW).mono hW.size) hL hR2 h3 h4 h5 h6)
      have HE := hid (fun k (hk : k < rs.length) => Tm.aboveErr_of h1 (Tm.ruleErr_ok (hall k hk)).1 (Tm.ruleErr_ok (hall k hk)).2.1)
      clear he hv h1 h2 hall hR h8
      go_enter Try.func18, Try.ntmps18
      go_wp2_with fail
      refine C1.mono ?_
      rintro e w ⟨rfl, rfl⟩
      go_wp2_with fail
      refine C2.mono ?_
      rintro e w1 ⟨rfl, b1⟩
      go_wp2_with fail
      go_loopw [24] (fun v wr => ∃ k : Nat, k ≤ rs.length ∧ v = .int .i64 (k : Int) ∧ Hid (Tm.fallsB rk (rs.take k) = true) ∧ Below w.heap.size w wr) (fun v _ => rs.length - (intOf v).toNat)
      case atStart => exact ⟨0, Nat.zero_le _, rfl, hid rfl, b1⟩
      case round =>
        obtain ⟨k, hk, rfl, hst, hB⟩ := hrel
        by_cases hlt : k < rs.length
        · have hlt' : (k : Int) < (rs.length : Int) := by omega
          obtain ⟨b, off, rfl, hb, aL, cL, aR, cR, g1, g2, g3, g4, g5, g6, g7, g8⟩ := (hI.below hB) k hlt
          have hs1 := hid (fallsB_snoc hlt hst.out)
          have hs2 := hid (fun h => fallsB_no (rk := rk) hlt h)
          have he := HE.out k hlt
          have hBa : Below wr.heap.size wr (wr.alloc (.cells #[.slice aL (rs[k]?.getD ([], [])).1.length cL, .slice aR (rs[k]?.getD ([], [])).2.length cR] 39)) := (Below.refl _ wr).alloc (Nat.le_refl _) _
          have hBw := hB.trans (hBa.mono hB.size)
          have hC := hid (HA.out _ hBw k hlt aL aR cL cR (((g3.mono hB.size).below hBa).mono hBa.size) (((g4.mono hB.size).below hBa).mono hBa.size) g5 g6 g7 g8)
          rw [he] at hC
          generalize (rs[k]?.getD ([], [])).1 = L at *
          generalize (rs[k]?.getD ([], [])).2 = R at *
          clear he g3 g4 g5 g6 g7 g8
          cases hq : Tm.aboveVal rk L R with
          | true =>
            rw [hq] at hC hs1
            clear hq hs2
            go_wp2_with (first
              | (go_at_call 51; refine hC.out.mono ?_; clear hC; rintro e w2 ⟨rfl, b2⟩))
            go_roundw
            case rel => exact ⟨k + 1, by omega, by go_num, hid hs1.out, hBw.trans (b2.mono hBw.size)⟩
            case measure => simp [intOf]; omega
          | false =>
            have hno := hid (hs2.out hq)
            rw [hq] at hC
            clear hq hs1 hs2
            go_wp2_with (first
              | (go_at_call 51; refine hC.out.mono ?_; clear hC; rintro e w2 ⟨rfl, b2⟩))
            go_ret2
            exact ⟨by rw [hno.out]; rfl, hBw.trans (b2.mono hBw.size)⟩
        · obtain rfl : k = rs.length := by omega
          rw [List.take_length] at hst
          go_wp2
          go_ret2
          exact ⟨by rw [hst.out]; rfl, hB⟩
    · have hv : Tm.fallsVal rk rs = false := by unfold Tm.fallsVal; rw [he, if_neg h2]
      have hn : (Tm.rulesErr rs != 0) = true := by simpa using h2
      rw [hv, he]
      clear h1 h2 he hv hR hI
      generalize Tm.rulesErr rs = q at *
      go_enter Try.func18, Try.ntmps18
      go_wp2_with fail
      refine C1.mono ?_
      rintro e w ⟨rfl, rfl⟩
      go_wp2_with fail
      refine C2.mono ?_
      rintro e w1 ⟨rfl, b1⟩
      go_wp2
      go_ret2
      exact ⟨rfl, b1⟩
  · have he : Tm.fallsErr rk rs = Tm.rankErr rk := by unfold Tm.fallsErr; rw [if_neg h1]
    have hv : Tm.fallsVal rk rs = false := by unfold Tm.fallsVal; rw [he, if_neg h1]
    have hn : (Tm.rankErr rk != 0) = true := by simpa using h1
    rw [hv, he]
    clear h1 he hv hR hI C2
    generalize Tm.rankErr rk = q at *
    go_enter Try.func18, Try.ntmps18
    go_wp2_with fail
    refine C1.mono ?_
    rintro e w ⟨rfl, rfl⟩
    go_wp2
    go_ret2
    exact ⟨rfl, Below.refl _ _⟩

end Go.Proofs.Ytgeknojpcjadkaa

namespace Go.Proofs.Ytgeknojpcjadkaa
open Go.Proofs Go.RowKit Go.Shelf Go.Maps

def Tm.replErr (ss : List (List Int)) (t : List Int) (k : Int) (r : List Int) : Int := if Tm.applyErr ss r = 0 then Tm.putErr t k (Tm.applyVal ss r) else Tm.applyErr ss r
def Tm.replVal (ss : List (List Int)) (t : List Int) (k : Int) (r : List Int) : List Int := if Tm.applyErr ss r = 0 then Tm.putVal t k (Tm.applyVal ss r) else []

set_option maxRecDepth 100000 in
set_option maxHeartbeats 1000000 in
theorem replaced_any (ss : List (List Int)) (t r : List Int) (k : Int) (aS at' ar : Option Addr) (cs ct cr : Nat) (w : World) (hS : Subs w.heap.size w aS ss) (hT : Ints w.heap.size w at' t) (hR : Ints w.heap.size w ar r) (h1 : t.length ≤ ct) (h2 : ct ≤ maxLen) :
    Calls Try.prog 56 #[.slice at' t.length ct, .int .i64 k, .slice aS ss.length cs, .slice ar r.length cr] w fun e w' => ∃ v, e = .returned (.tuple #[v, .int .i64 (Tm.replErr ss t k r)]) ∧ New w.heap.size w' v (Tm.replVal ss t k r) ∧ Below w.heap.size w w' := by
  have C1 := apply_any ss r aS ar cs cr w hS hR
  by_cases he : Tm.applyErr ss r = 0
  · have e1 : Tm.replErr ss t k r = Tm.putErr t k (Tm.applyVal ss r) := by unfold Tm.replErr; rw [if_pos he]
    have e2 : Tm.replVal ss t k r = Tm.putVal t k (Tm.applyVal ss r) := by unfold Tm.replVal; rw [if_pos he]
    rw [e1, e2]
    rw [he] at C1
    clear e1 e2 he hS hR
    generalize Tm.applyVal ss r = u at *
    go_enter Try.func56, Try.ntmps56
    go_wp2_with fail
    refine C1.mono ?_
    rintro e w1 ⟨v1, rfl, hN1, b1⟩
    obtain ⟨x1, c1, rfl, hI1, _⟩ := New.ints hN1
    have C2 := termPut_any t u at' x1 ct c1 k w1 ((hT.below b1).mono b1.size) hI1 h1 h2
    clear C1 hN1 hI1
    go_wp2_with fail
    refine C2.mono ?_
    rintro e w2 ⟨v2, rfl, hN2, b2⟩
    clear C2
    go_wp2
    go_ret2
    exact ⟨_, rfl, hN2.mono b1.size, b1.trans (b2.mono b1.size)⟩
  · have e1 : Tm.replErr ss t k r = Tm.applyErr ss r := by unfold Tm.replErr; rw [if_neg he]
    have e2 : Tm.replVal ss t k r = [] := by unfold Tm.replVal; rw [if_neg he]
    have hn : (Tm.applyErr ss r != 0) = true := by simpa using he
    rw [e1, e2]
    clear e1 e2 he hS hR hT h1 h2
    generalize Tm.applyErr ss r = q at *
    go_enter Try.func56, Try.ntmps56
    go_wp2_with fail
    refine C1.mono ?_
    rintro e w1 ⟨v1, rfl, hN1, b1⟩
    obtain ⟨x1, c1, rfl, hI1, _⟩ := New.ints hN1
    clear C1 hN1 hI1
    go_wp2
    go_ret2
    exact ⟨_, rfl, New.nil _ _, b1⟩

/-- A step: by which rule, where, to what. -/
abbrev StepL := List (Nat × Nat × List Int)
/-- v IS A SLICE IN NEW MEMORY THAT HOLDS THESE STEPS, each term in new memory too. -/
def NewT (base : Nat) (W : World) (v : Value) (sts : StepL) : Prop :=
  ∃ us : List Value, W.ownsRow base 54 3 v sts.length us ∧ ∀ j, j < sts.length → ∃ u, us[j * 3]? = some (.int .i64 ((sts[j]?.getD (0, 0, [])).1 : Int)) ∧ us[j * 3 + 1]? = some (.int .i64 ((sts[j]?.getD (0, 0, [])).2.1 : Int)) ∧ us[j * 3 + 2]? = some u ∧ New base W u (sts[j]?.getD (0, 0, [])).2.2
theorem NewT.nil (base : Nat) (W : World) : NewT base W (.slice none 0 0) [] := ⟨[], World.ownsRow_nil _ _ _ _, fun j hj => by simp at hj⟩
theorem New.apartT {base : Nat} {W : World} {u v : Value} {t : List Int} {n : Nat} {us : List Value} (hu : New base W u t) (hv : W.ownsRow base 54 3 v n us) : u.ownBlock = none ∨ u.ownBlock ≠ v.ownBlock := by
  rcases hu.2 with ⟨rfl, _⟩ | ⟨g, cap, cur, rfl, hb, hg, r⟩
  · exact .inl rfl
  · right
    rcases hv.2 with ⟨rfl, _⟩ | ⟨g', cap', cur', rfl, hb', hg', r'⟩
    · intro e; cases e
    · intro e
      simp only [Value.ownBlock, Option.some.injEq] at e
      subst e
      rw [hg] at hg'
      simp at hg'
theorem NewT.below {base : Nat} {W W' : World} {v : Value} {sts : StepL} (h : NewT base W v sts) (hB : Below W.heap.size W W') : NewT base W' v sts := by
  obtain ⟨us, h1, h2⟩ := h
  refine ⟨us, World.ownsRow.kept h1 (grown_of_below hB) (by cases h : v.ownBlock with | none => exact .inl rfl | some k => exact .inr (by simp)), fun j hj => ?_⟩
  obtain ⟨u, a, b, c, d⟩ := h2 j hj
  exact ⟨u, a, b, c, New.below d hB⟩
theorem Try.info54 : (Try.prog.info? 54).map (fun i => (i.zero, i.size, i.bytes)) = some (some (.agg #[.int .i64 0, .int .i64 0, .slice none 0 0]), 3, 40) := by kernel_rfl

end Go.Proofs.Ytgeknojpcjadkaa

namespace Go.Proofs.Ytgeknojpcjadkaa
open Go.Proofs Go.RowKit Go.Shelf Go.Maps

/-- Does rule k fit at place a? -/
def Tm.hitB (rs : RuleL) (t : List Int) (a k : Nat) : Bool := Tm.fitIs (rs[k]?.getD ([], [])).1 (Tm.part t a)
def Tm.hitErr (rs : RuleL) (t : List Int) (a k : Nat) : Int := Tm.replErr (Tm.fitVal (rs[k]?.getD ([], [])).1 (Tm.part t a)) t (a : Int) (rs[k]?.getD ([], [])).2
def Tm.hitVal (rs : RuleL) (t : List Int) (a k : Nat) : List Int := Tm.replVal (Tm.fitVal (rs[k]?.getD ([], [])).1 (Tm.part t a)) t (a : Int) (rs[k]?.getD ([], [])).2
/-- The first error of the first n rules at a place; the steps of the first n rules there. -/
def Tm.rowE (rs : RuleL) (t : List Int) (a : Nat) : Nat → Int
  | 0 => 0
  | n + 1 => if Tm.rowE rs t a n = 0 then (if Tm.hitB rs t a n = true then Tm.hitErr rs t a n else 0) else Tm.rowE rs t a n
def Tm.rowL (rs : RuleL) (t : List Int) (a : Nat) : Nat → StepL
  | 0 => []
  | n + 1 => Tm.rowL rs t a n ++ (if Tm.hitB rs t a n = true then [(n, a, Tm.hitVal rs t a n)] else [])
/-- The first error of the first m places; the steps there. -/
def Tm.allE (rs : RuleL) (t : List Int) : Nat → Int
  | 0 => 0
  | m + 1 => if Tm.allE rs t m = 0 then Tm.rowE rs t m rs.length else Tm.allE rs t m
def Tm.allL (rs : RuleL) (t : List Int) : Nat → StepL
  | 0 => []
  | m + 1 => Tm.allL rs t m ++ Tm.rowL rs t m rs.length
/-- F2. -/
def Tm.stepErr (rs : RuleL) (t : List Int) : Int := if Tm.rulesErr rs = 0 then (if Tm.err t = 0 then Tm.allE rs t t.length else Tm.err t) else Tm.rulesErr rs
def Tm.stepVal (rs : RuleL) (t : List Int) : StepL := if Tm.stepErr rs t = 0 then Tm.allL rs t t.length else []

theorem Tm.rowE_stays {rs : RuleL} {t : List Int} {a n : Nat} (h : Tm.rowE rs t a n ≠ 0) : ∀ m, n ≤ m → Tm.rowE rs t a m = Tm.rowE rs t a n := by
  intro m hm
  induction m with
  | zero => obtain rfl : n = 0 := by omega
            rfl
  | succ m ih =>
    by_cases e : n = m + 1
    · rw [e]
    · rw [Tm.rowE, if_neg (by rw [ih (by omega)]; exact h), ih (by omega)]
theorem Tm.allE_stays {rs : RuleL} {t : List Int} {n : Nat} (h : Tm.allE rs t n ≠ 0) : ∀ m, n ≤ m → Tm.allE rs t m = Tm.allE rs t n := by
  intro m hm
  induction m with
  | zero => obtain rfl : n = 0 := by omega
            rfl
  | succ m ih =>
    by_cases e : n = m + 1
    · rw [e]
    · rw [Tm.allE, if_neg (by rw [ih (by omega)]; exact h), ih (by omega)]
/-- An error at a place is the whole's, where none was ahead of it. -/
theorem Tm.allE_stop {rs : RuleL} {t : List Int} {a n : Nat} (h0 : Tm.allE rs t a = 0) (hr : Tm.rowE rs t a n = 0) (ha : a < t.length) (hn : n < rs.length) (hb : Tm.hitB rs t a n = true) (he : Tm.hitErr rs t a n ≠ 0) :
    Tm.allE rs t t.length = Tm.hitErr rs t a n := by
  have e1 : Tm.rowE rs t a (n + 1) = Tm.hitErr rs t a n := by rw [Tm.rowE, if_pos hr, if_pos hb]
  have e2 : Tm.rowE rs t a rs.length = Tm.hitErr rs t a n := by rw [Tm.rowE_stays (by rw [e1]; exact he) rs.length (by omega), e1]
  have e3 : Tm.allE rs t (a + 1) = Tm.hitErr rs t a n := by rw [Tm.allE, if_pos h0, e2]
  rw [Tm.allE_stays (by rw [e3]; exact he) t.length (by omega), e3]
theorem Tm.allE_next {rs : RuleL} {t : List Int} {a : Nat} (h0 : Tm.allE rs t a = 0) (hr : Tm.rowE rs t a rs.length = 0) : Tm.allE rs t (a + 1) = 0 := by rw [Tm.allE, if_pos h0, hr]
theorem Tm.rowE_no {rs : RuleL} {t : List Int} {a n : Nat} (hr : Tm.rowE rs t a n = 0) (hb : Tm.hitB rs t a n = false) : Tm.rowE rs t a (n + 1) = 0 := by rw [Tm.rowE, if_pos hr, hb, if_neg (by decide)]
theorem Tm.rowE_yes {rs : RuleL} {t : List Int} {a n : Nat} (hr : Tm.rowE rs t a n = 0) (hb : Tm.hitB rs t a n = true) (he : Tm.hitErr rs t a n = 0) : Tm.rowE rs t a (n + 1) = 0 := by rw [Tm.rowE, if_pos hr, if_pos hb, he]
theorem Tm.rowL_no {rs : RuleL} {t : List Int} {a n : Nat} (hb : Tm.hitB rs t a n = false) : Tm.rowL rs t a (n + 1) = Tm.rowL rs t a n := by rw [Tm.rowL, hb, if_neg (by decide), List.append_nil]
theorem Tm.rowL_yes {rs : RuleL} {t : List Int} {a n : Nat} (hb : Tm.hitB rs t a n = true) : Tm.rowL rs t a (n + 1) = Tm.rowL rs t a n ++ [(n, a, Tm.hitVal rs t a n)] := by rw [Tm.rowL, if_pos hb]
theorem Tm.rowL_le (rs : RuleL) (t : List Int) (a : Nat) : ∀ n, (Tm.rowL rs t a n).length ≤ n := by
  intro n
  induction n with
  | zero => simp [Tm.rowL]
  | succ n ih =>
    rw [Tm.rowL, List.length_append]
    split
    · simp only [List.length_cons, List.length_nil]; omega
    · simp only [List.length_nil]; omega
theorem Tm.allL_le (rs : RuleL) (t : List Int) : ∀ m, (Tm.allL rs t m).length ≤ m * rs.length := by
  intro m
  induction m with
  | zero => simp [Tm.allL]
  | succ m ih =>
    rw [Tm.allL, List.length_append, Nat.succ_mul]
    have := Tm.rowL_le rs t m rs.length
    omega

theorem Tm.applied_put_le {t u : List Int} {a : Nat} : u.length ≤ (Tm.put t a u).length := by unfold Tm.put; simp only [List.length_append]; omega
theorem insideB_place {t : List Int} {a : Nat} (ha : a < t.length) : insideB (a : Int) 0 ((t.length : Int) - 1) = true := by rw [insideB_iff]; omega
/-- What comes of a rule that fits, in plain words. -/
theorem Tm.repl_fit {L R t : List Int} {a : Nat} {m : Asg} (hL : Tm.err L = 0) (hR : Tm.err R = 0) (ht : Tm.err t = 0) (ha : a < t.length) (hf : Tm.fit L (Tm.part t a) = some m) :
    Tm.replErr (Tm.fitL m 8) t (a : Int) R = (if 30 < (Tm.put t a (Tm.applied (Tm.fitL m 8) R)).length then 2 else 0) ∧
      Tm.replVal (Tm.fitL m 8) t (a : Int) R = (if 30 < (Tm.put t a (Tm.applied (Tm.fitL m 8) R)).length then [] else Tm.put t a (Tm.applied (Tm.fitL m 8) R)) := by
  have hs := Tm.subErr_fitL hL (Tm.part_err ht ha) hf
  obtain ⟨e1, e2⟩ := Tm.apply_ok hs hR
  have hle := Tm.applied_put_le (t := t) (u := Tm.applied (Tm.fitL m 8) R) (a := a)
  by_cases h30 : 30 < (Tm.applied (Tm.fitL m 8) R).length
  · rw [if_pos h30] at e1
    have h2 : ¬ (2 : Int) = 0 := by decide
    refine ⟨?_, ?_⟩
    · unfold Tm.replErr; rw [e1, if_neg h2, if_pos (by omega)]
    · unfold Tm.replVal; rw [e1, if_neg h2, if_pos (by omega)]
  · rw [if_neg h30] at e1 e2
    have hu := Tm.err_applied (Terms.of hs) hR (by omega)
    unfold Tm.replErr Tm.replVal
    rw [e1, if_pos rfl, if_pos rfl, e2, Tm.putErr_in ht hu (insideB_place ha), Tm.putVal_in ht hu (insideB_place ha)]
    exact ⟨rfl, rfl⟩
theorem Tm.hitB_fit {rs : RuleL} {t : List Int} {a k : Nat} (hL : Tm.err (rs[k]?.getD ([], [])).1 = 0) (ht : Tm.err t = 0) (ha : a < t.length) : Tm.hitB rs t a k = (Tm.fit (rs[k]?.getD ([], [])).1 (Tm.part t a)).isSome := by
  unfold Tm.hitB Tm.fitIs
  rw [if_pos (Tm.fitErr_of hL (Tm.part_err ht ha))]
theorem Tm.hit_fit {rs : RuleL} {t : List Int} {a k : Nat} {m : Asg} (hL : Tm.err (rs[k]?.getD ([], [])).1 = 0) (hR : Tm.err (rs[k]?.getD ([], [])).2 = 0) (ht : Tm.err t = 0) (ha : a < t.length) (hf : Tm.fit (rs[k]?.getD ([], [])).1 (Tm.part t a) = some m) :
    Tm.hitErr rs t a k = (if 30 < (Tm.put t a (Tm.applied (Tm.fitL m 8) (rs[k]?.getD ([], [])).2)).length then 2 else 0) ∧
      Tm.hitVal rs t a k = (if 30 < (Tm.put t a (Tm.applied (Tm.fitL m 8) (rs[k]?.getD ([], [])).2)).length then [] else Tm.put t a (Tm.applied (Tm.fitL m 8) (rs[k]?.getD ([], [])).2)) := by
  unfold Tm.hitErr Tm.hitVal
  rw [(Tm.fit_yes (Tm.fitErr_of hL (Tm.part_err ht ha)) hf).2]
  exact Tm.repl_fit hL hR ht ha hf

end Go.Proofs.Ytgeknojpcjadkaa

namespace Go.Proofs.Ytgeknojpcjadkaa
open Go.Proofs Go.RowKit Go.Shelf Go.Maps

theorem Tm.rowL_mem {rs : RuleL} {t : List Int} {a : Nat} {x : Nat × Nat × List Int} : ∀ n, x ∈ Tm.rowL rs t a n → x.1 < n ∧ x.2.1 = a ∧ Tm.hitB rs t a x.1 = true ∧ x.2.2 = Tm.hitVal rs t a x.1 := by
  intro n
  induction n with
  | zero => intro h; simp [Tm.rowL] at h
  | succ n ih =>
    intro h
    rw [Tm.rowL, List.mem_append] at h
    rcases h with h | h
    · obtain ⟨h1, h2⟩ := ih h
      exact ⟨by omega, h2⟩
    · split at h
      · simp only [List.mem_cons, List.not_mem_nil, or_false] at h
        subst h
        exact ⟨by simp, rfl, by assumption, rfl⟩
      · simp at h
theorem Tm.allL_mem {rs : RuleL} {t : List Int} {x : Nat × Nat × List Int} : ∀ m, x ∈ Tm.allL rs t m → x.2.1 < m ∧ x.1 < rs.length ∧ Tm.hitB rs t x.2.1 x.1 = true ∧ x.2.2 = Tm.hitVal rs t x.2.1 x.1 := by
  intro m
  induction m with
  | zero => intro h; simp [Tm.allL] at h
  | succ m ih =>
    intro h
    rw [Tm.allL, List.mem_append] at h
    rcases h with h | h
    · obtain ⟨h1, h2⟩ := ih h
      exact ⟨by omega, h2⟩
    · obtain ⟨h1, h2, h3, h4⟩ := Tm.rowL_mem _ h
      rw [h2]
      exact ⟨by omega, h1, h3, h4⟩
theorem Tm.rowE_all {rs : RuleL} {t : List Int} {a : Nat} : ∀ n, Tm.rowE rs t a n = 0 → ∀ k, k < n → Tm.hitB rs t a k = true → Tm.hitErr rs t a k = 0 := by
  intro n
  induction n with
  | zero => intro _ k hk; omega
  | succ n ih =>
    intro h k hk hb
    rw [Tm.rowE] at h
    by_cases h0 : Tm.rowE rs t a n = 0
    · rw [if_pos h0] at h
      by_cases e : k = n
      · subst e; rw [if_pos hb] at h; exact h
      · exact ih h0 k (by omega) hb
    · rw [if_neg h0] at h; exact absurd h h0
theorem Tm.allE_all {rs : RuleL} {t : List Int} : ∀ m, Tm.allE rs t m = 0 → ∀ a, a < m → ∀ k, k < rs.length → Tm.hitB rs t a k = true → Tm.hitErr rs t a k = 0 := by
  intro m
  induction m with
  | zero => intro _ a ha; omega
  | succ m ih =>
    intro h a ha
    rw [Tm.allE] at h
    by_cases h0 : Tm.allE rs t m = 0
    · rw [if_pos h0] at h
      by_cases e : a = m
      · subst e; exact Tm.rowE_all _ h
      · exact ih h0 a (by omega)
    · rw [if_neg h0] at h; exact absurd h h0

/-! How many. -/
def Tm.cnt (f : Nat → Bool) : Nat → Nat
  | 0 => 0
  | n + 1 => Tm.cnt f n + (if f n = true then 1 else 0)
def Tm.sum (g : Nat → Nat) : Nat → Nat
  | 0 => 0
  | n + 1 => Tm.sum g n + g n
/-! What a step is. -/
/-- A step of a right term by a rule that is right. -/
structure Tm.Step1 (L R t u : List Int) (a : Nat) (m : Asg) : Prop where
  fit : Tm.fit L (Tm.part t a) = some m
  goes : u = Tm.put t a (Tm.applied (Tm.fitL m 8) R)
  small : u.length ≤ 30
theorem Tm.hit_step {rs : RuleL} {t : List Int} {a k : Nat} (hr : Tm.rulesErr rs = 0) (ht : Tm.err t = 0) (ha : a < t.length) (hk : k < rs.length) (hb : Tm.hitB rs t a k = true) (he : Tm.hitErr rs t a k = 0) :
    ∃ m, Tm.Step1 (rs[k]?.getD ([], [])).1 (rs[k]?.getD ([], [])).2 t (Tm.hitVal rs t a k) a m := by
  obtain ⟨_, hall⟩ := Tm.rulesErr_ok hr
  obtain ⟨hL, hR, _⟩ := Tm.ruleErr_ok (hall k hk)
  rw [Tm.hitB_fit hL ht ha, Option.isSome_iff_exists] at hb
  obtain ⟨m, hm⟩ := hb
  obtain ⟨e1, e2⟩ := Tm.hit_fit hL hR ht ha hm
  rw [he] at e1
  by_cases h30 : 30 < (Tm.put t a (Tm.applied (Tm.fitL m 8) (rs[k]?.getD ([], [])).2)).length
  · rw [if_pos h30] at e1; omega
  · rw [if_neg h30] at e2
    exact ⟨m, hm, e2, by rw [e2]; omega⟩
theorem Tm.put_self (t : List Int) (a : Nat) : Tm.put t a (Tm.part t a) = t := by rw [Tm.put_eq]; exact (Tm.split t a).symm
theorem Tm.Step1.parts {L R t u : List Int} {a : Nat} {m : Asg} (h : Tm.Step1 L R t u a m) (hL : Tm.err L = 0) (hR : Tm.err R = 0) (ht : Tm.err t = 0) (ha : a < t.length) :
    Terms (Tm.fitL m 8) ∧ Tm.applied (Tm.fitL m 8) L = Tm.part t a ∧ Tm.err (Tm.applied (Tm.fitL m 8) R) = 0 ∧ Tm.err u = 0 := by
  have hs := Terms.of (Tm.subErr_fitL hL (Tm.part_err ht ha) h.fit)
  have hl := h.small
  have hle := Tm.applied_put_le (t := t) (u := Tm.applied (Tm.fitL m 8) R) (a := a)
  rw [← h.goes] at hle
  have hu := Tm.err_applied hs hR (by omega)
  refine ⟨hs, Tm.fit_makes hL (Tm.part_err ht ha) h.fit, hu, ?_⟩
  rw [h.goes]
  exact Tm.put_err ht hu ha (by rw [← h.goes]; exact hl)
/-- Of a rule that falls the step goes to what is below. -/
theorem Tm.Step1.below {r : Int → Int} {L R t u : List Int} {a : Nat} {m : Asg} (h : Tm.Step1 L R t u a m) (hL : Tm.err L = 0) (hR : Tm.err R = 0) (ht : Tm.err t = 0) (ha : a < t.length) (hg : Tm.Gt r L R) : Tm.Gt r t u := by
  obtain ⟨hs, e1, e2, _⟩ := h.parts hL hR ht ha
  have h1 := Tm.Gt.stays hs hg hL hR
  have h2 := Tm.Gt.within h1 (by rw [e1]; exact Tm.part_err ht ha) e2 _ t a (Nat.lt_succ_self _) ht ha
  rw [e1, Tm.put_self, ← h.goes] at h2
  exact h2
theorem Tm.hasB_mem {zs : List Int} {x : Int} (h : Tm.hasB zs x = true) : x ∈ zs := by
  unfold Tm.hasB at h
  simpa using h
end Go.Proofs.Ytgeknojpcjadkaa

namespace Go.Proofs.Ytgeknojpcjadkaa
open Go.Proofs Go.RowKit Go.Shelf

theorem Tr.of_err {t : List Int} (h : Tm.err t = 0) : ∃ x : Tr, x.ok ∧ x.flat = t := by
  have ha := Tm.err_all h
  rw [List.all_eq_true] at ha
  exact Tr.of (fun s hs => Tm.known_lt (ha s hs)) (Tm.err_run h)

theorem Tr.sub_flat {ss : List (List Int)} {f : Int → Tr} : ∀ (x : Tr), x.ok → (∀ s ∈ x.flat, s < 0 → (f s).flat = Tm.piece ss s) → (x.sub f).flat = Tm.applied ss x.flat := by
  intro x
  induction x with
  | leaf s =>
    intro _ h
    rw [Tr.sub]
    by_cases hs : s < 0
    · rw [if_pos hs, h s (by simp [Tr.flat]) hs]; simp [Tr.flat, Tm.applied]
    · rw [if_neg hs]; simp [Tr.flat, Tm.applied, Tm.piece, hs]
  | one s a ih =>
    intro ho h
    have hs : ¬ s < 0 := by have := ho.1; omega
    rw [Tr.sub, Tr.flat, ih ho.2 (fun x hx => h x (List.mem_cons_of_mem _ hx)), Tr.flat]
    simp [Tm.applied, Tm.piece, hs]
  | two s a b iha ihb =>
    intro ho h
    have hs : ¬ s < 0 := by have := ho.1; omega
    rw [Tr.sub, Tr.flat, iha ho.2.1 (fun x hx => h x (List.mem_cons_of_mem _ (List.mem_append_left _ hx))), ihb ho.2.2 (fun x hx => h x (List.mem_cons_of_mem _ (List.mem_append_right _ hx))), Tr.flat]
    simp [Tm.applied, Tm.piece, hs]

/-- What stands at a place. -/
theorem Tr.at : ∀ (x : Tr), x.ok → ∀ a, a < x.flat.length → ∃ (C : Cx) (u : Tr) (pre suf : List Int), u.ok ∧ C.fill u = x ∧ pre.length = a ∧ ∀ v : Tr, (C.fill v).flat = pre ++ (v.flat ++ suf) := by
  intro x
  induction x with
  | leaf s =>
    intro h a ha
    exact ⟨.hole, .leaf s, [], [], h, rfl, by simp [Tr.flat] at ha; simp [ha], fun v => by simp [Cx.fill]⟩
  | one s a ih =>
    intro h k hk
    cases k with
    | zero => exact ⟨.hole, .one s a, [], [], h, rfl, rfl, fun v => by simp [Cx.fill]⟩
    | succ k =>
      obtain ⟨C, u, pre, suf, h1, h2, h3, h4⟩ := ih h.2 k (by simpa [Tr.flat] using hk)
      exact ⟨.one s C, u, s :: pre, suf, h1, by rw [Cx.fill, h2], by simp [h3], fun v => by rw [Cx.fill, Tr.flat, h4]; rfl⟩
  | two s a b iha ihb =>
    intro h k hk
    cases k with
    | zero => exact ⟨.hole, .two s a b, [], [], h, rfl, rfl, fun v => by simp [Cx.fill]⟩
    | succ k =>
      by_cases hl : k < a.flat.length
      · obtain ⟨C, u, pre, suf, h1, h2, h3, h4⟩ := iha h.2.1 k hl
        exact ⟨.twoL s C b, u, s :: pre, suf ++ b.flat, h1, by rw [Cx.fill, h2], by simp [h3], fun v => by rw [Cx.fill, Tr.flat, h4]; simp⟩
      · obtain ⟨C, u, pre, suf, h1, h2, h3, h4⟩ := ihb h.2.2 (k - a.flat.length) (by simp [Tr.flat] at hk; omega)
        exact ⟨.twoR s a C, u, s :: (a.flat ++ pre), suf, h1, by rw [Cx.fill, h2], by simp [h3]; omega, fun v => by rw [Cx.fill, Tr.flat, h4]; simp⟩
theorem Tr.part_of {u : Tr} (h : u.ok) (pre suf : List Int) : Tm.endAt (pre ++ (u.flat ++ suf)) pre.length = pre.length + u.flat.length ∧ Tm.part (pre ++ (u.flat ++ suf)) pre.length = u.flat := by
  have e : Tm.endAt (pre ++ (u.flat ++ suf)) pre.length = pre.length + u.flat.length := by
    unfold Tm.endAt
    rw [List.drop_left, Tr.run h suf 0, Tm.run_zero]
    rfl
  refine ⟨e, ?_⟩
  unfold Tm.part
  rw [e, List.drop_left, Nat.add_sub_cancel_left, List.take_left]
theorem Tr.put_of {u : Tr} (h : u.ok) (pre suf us : List Int) : Tm.put (pre ++ (u.flat ++ suf)) pre.length us = pre ++ (us ++ suf) := by
  unfold Tm.put
  rw [(Tr.part_of h pre suf).1, List.take_left, ← List.append_assoc, ← List.length_append, List.drop_left, List.append_assoc]
theorem Cx.flat (C : Cx) : ∃ pre suf : List Int, ∀ v : Tr, (C.fill v).flat = pre ++ (v.flat ++ suf) := by
  induction C with
  | hole => exact ⟨[], [], fun v => by simp [Cx.fill]⟩
  | one s C ih => obtain ⟨pre, suf, h⟩ := ih; exact ⟨s :: pre, suf, fun v => by rw [Cx.fill, Tr.flat, h]; rfl⟩
  | twoL s C b ih => obtain ⟨pre, suf, h⟩ := ih; exact ⟨s :: pre, suf ++ b.flat, fun v => by rw [Cx.fill, Tr.flat, h]; simp⟩
  | twoR s a C ih => obtain ⟨pre, suf, h⟩ := ih; exact ⟨s :: (a.flat ++ pre), suf, fun v => by rw [Cx.fill, Tr.flat, h]; simp⟩

/-- What variables become, as trees. -/
theorem Tr.asg {ss : List (List Int)} (h : Terms ss) : ∃ f : Int → Tr, Tr.Oks f ∧ ∀ s, s < 0 → -8 ≤ s → (f s).flat = Tm.piece ss s := by
  have key : ∀ s : Int, ∃ y : Tr, y.ok ∧ (s < 0 → -8 ≤ s → y.flat = Tm.piece ss s) := fun s => by
    by_cases hs : s < 0 ∧ -8 ≤ s
    · obtain ⟨y, h1, h2⟩ := Tr.of_err (Tm.piece_term h hs.2 hs.1)
      exact ⟨y, h1, fun _ _ => h2⟩
    · exact ⟨.leaf 0, by simp [Tr.ok], fun h1 h2 => absurd ⟨h1, h2⟩ hs⟩
  obtain ⟨f, hf⟩ := Classical.axiomOfChoice key
  exact ⟨f, fun s _ => (hf s).1, fun s => (hf s).2⟩

/-- The rules as trees. -/
def Tr.Rules (rs : RuleL) (Rs : List (Tr × Tr)) : Prop := Rs.map (fun p => (p.1.flat, p.2.flat)) = rs ∧ Tr.RsOk Rs
theorem Tr.Rules.of {rs : RuleL} (h : ∀ p ∈ rs, Tm.err p.1 = 0 ∧ Tm.err p.2 = 0) : ∃ Rs, Tr.Rules rs Rs := by
  induction rs with
  | nil => exact ⟨[], rfl, fun p hp => by cases hp⟩
  | cons q rs ih =>
    obtain ⟨Rs, h1, h2⟩ := ih (fun p hp => h p (List.mem_cons_of_mem _ hp))
    obtain ⟨x, x1, x2⟩ := Tr.of_err (h q List.mem_cons_self).1
    obtain ⟨y, y1, y2⟩ := Tr.of_err (h q List.mem_cons_self).2
    refine ⟨(x, y) :: Rs, by rw [List.map_cons, h1, x2, y2], fun p hp => ?_⟩
    rcases List.mem_cons.1 hp with rfl | hp
    · exact ⟨x1, y1⟩
    · exact h2 p hp
theorem Tr.Rules.err {rs : RuleL} (h : Tm.rulesErr rs = 0) : ∃ Rs, Tr.Rules rs Rs := by
  obtain ⟨_, hall⟩ := Tm.rulesErr_ok h
  refine Tr.Rules.of fun p hp => ?_
  obtain ⟨k, hk, rfl⟩ := List.getElem_of_mem hp
  obtain ⟨hL, hR, _⟩ := Tm.ruleErr_ok (hall k hk)
  rw [List.getElem?_eq_getElem hk] at hL hR
  exact ⟨hL, hR⟩
theorem Tr.Rules.get {rs : RuleL} {Rs : List (Tr × Tr)} (h : Tr.Rules rs Rs) {k : Nat} (hk : k < rs.length) : ∃ l r, (l, r) ∈ Rs ∧ l.flat = (rs[k]?.getD ([], [])).1 ∧ r.flat = (rs[k]?.getD ([], [])).2 := by
  obtain ⟨rfl, _⟩ := h
  have hk' : k < Rs.length := by simpa using hk
  refine ⟨Rs[k].1, Rs[k].2, List.getElem_mem hk', ?_, ?_⟩ <;> simp [hk']

/-- A step of a right term is a step of its tree. -/
theorem Tr.step_of {rs : RuleL} {Rs : List (Tr × Tr)} (hR : Tr.Rules rs Rs) (hr : Tm.rulesErr rs = 0) {t u : List Int} {a k : Nat} {m : Asg} (hk : k < rs.length) (ht : Tm.err t = 0) (ha : a < t.length)
    (h : Tm.Step1 (rs[k]?.getD ([], [])).1 (rs[k]?.getD ([], [])).2 t u a m) {x : Tr} (hx : x.ok) (e : x.flat = t) : ∃ y, y.ok ∧ y.flat = u ∧ Tr.St Rs x y := by
  obtain ⟨_, hall⟩ := Tm.rulesErr_ok hr
  obtain ⟨hL, hR', _⟩ := Tm.ruleErr_ok (hall k hk)
  obtain ⟨l, r, hm, el, er⟩ := hR.get hk
  obtain ⟨hT, e1, e2, e3⟩ := h.parts hL hR' ht ha
  obtain ⟨f, hf, hf'⟩ := Tr.asg hT
  have known : ∀ {z : List Int}, Tm.err z = 0 → ∀ s ∈ z, -8 ≤ s := fun hz s hs => by
    have := Tm.err_all hz
    rw [List.all_eq_true] at this
    have := this s hs
    simp [Tm.known] at this
    omega
  have sl : (l.sub f).flat = Tm.part t a := by rw [Tr.sub_flat l (hR.2 _ hm).1 (fun s hs h0 => hf' s h0 (known hL s (by rw [← el]; exact hs))), el, e1]
  have sr : (r.sub f).flat = Tm.applied (Tm.fitL m 8) (rs[k]?.getD ([], [])).2 := by rw [Tr.sub_flat r (hR.2 _ hm).2 (fun s hs h0 => hf' s h0 (known hR' s (by rw [← er]; exact hs))), er]
  subst e
  obtain ⟨C, v, pre, suf, h1, h2, h3, h4⟩ := Tr.at x hx a ha
  have hxf : x.flat = pre ++ (v.flat ++ suf) := by rw [← h4, h2]
  have hv : v = l.sub f := by
    refine Tr.flat_inj h1 (Tr.sub_ok hf (hR.2 _ hm).1) ?_
    rw [sl, hxf, ← h3, (Tr.part_of h1 pre suf).2]
  have hst : Tr.St Rs x (C.fill (r.sub f)) := by
    rw [← h2, hv]
    exact (Tr.St.root l r f hm hf).fill C
  refine ⟨_, hst.ok hR.2 hx, ?_, hst⟩
  rw [h4, h.goes, hxf, ← h3, Tr.put_of h1, sr]

end Go.Proofs.Ytgeknojpcjadkaa

namespace Go.Proofs.Ytgeknojpcjadkaa
open Go.Proofs Go.RowKit Go.Shelf Go.Maps

theorem row_apart {W : World} {base : Nat} {e : TypeId} {size : Nat} {v : Value} {n : Nat} {us : List Value} (h : W.ownsRow base e size v n us) {row : Option Nat} (hr : ∀ k, row = some k → ∀ cs p, W.heap[k]? ≠ some (.cells cs e p)) : v.ownBlock = none ∨ v.ownBlock ≠ row := by
  rcases h.2 with ⟨rfl, _⟩ | ⟨g, cap, cur, rfl, _, hgb, _⟩
  · exact .inl rfl
  · refine .inr fun e' => ?_
    exact hr g (by rw [← e']; rfl) _ _ hgb
theorem NewT.grown {base : Nat} {W W' : World} {v : Value} {sts : StepL} {row : Option Nat} (h : NewT base W v sts) (hg : W.grownBy W' row) (hr : ∀ k, row = some k → ∀ cs p, W.heap[k]? ≠ some (.cells cs 54 p) ∧ W.heap[k]? ≠ some (.cells cs 3 p)) : NewT base W' v sts := by
  obtain ⟨us, h1, h2⟩ := h
  refine ⟨us, h1.kept hg (row_apart h1 fun k e cs p => (hr k e cs p).1), fun j hj => ?_⟩
  obtain ⟨u, a, b, c, d⟩ := h2 j hj
  exact ⟨u, a, b, c, World.ownsRow.kept d hg (row_apart d fun k e cs p => (hr k e cs p).2)⟩
theorem boxed_ne {W : World} {B : Nat} {t e : TypeId} {x : Value} (h : Boxed W B t x) (hte : t ≠ e) (cs : Array Value) (p : Nat × Nat) : W.heap[B]? ≠ some (.cells cs e p) := by
  rw [show W.heap[B]? = _ from h]
  intro h'
  simp only [Option.some.injEq, Obj.cells.injEq] at h'
  exact hte h'.2.1
theorem NewT.set {base : Nat} {W : World} {v : Value} {sts : StepL} (h : NewT base W v sts) {B : Nat} {t : TypeId} {x : Value} (hb : Boxed W B t x) (h1 : t ≠ 54) (h2 : t ≠ 3) (y : Value) : NewT base (W.setCell ⟨B, 0, none⟩ y) v sts :=
  h.grown (grownBy_setCell' W B y) fun k e cs p => by
    cases e
    exact ⟨boxed_ne hb h1 cs p, boxed_ne hb h2 cs p⟩
theorem NewT.other {base : Nat} {W W' : World} {v : Value} {sts : StepL} {row : Option Nat} (h : NewT base W v sts) (hg : W.grownBy W' row) (hr : ∀ r, row = some r → ∃ o : Obj, W.heap[r]? = some o ∧ o.isCells = false) : NewT base W' v sts :=
  h.grown hg fun k e cs p => by
    obtain ⟨o, ho, hc⟩ := hr k e
    rw [ho]
    refine ⟨?_, ?_⟩ <;> (intro h'; simp only [Option.some.injEq] at h'; subst h'; simp [Obj.isCells] at hc)
theorem NewT.mono {base base' : Nat} {W : World} {v : Value} {sts : StepL} (h : NewT base W v sts) (hb : base' ≤ base) : NewT base' W v sts := by
  obtain ⟨us, h1, h2⟩ := h
  refine ⟨us, ⟨h1.1, h1.2.elim .inl (fun ⟨g, cap, cur, e1, e2, e3⟩ => .inr ⟨g, cap, cur, e1, Nat.le_trans hb e2, e3⟩)⟩, fun j hj => ?_⟩
  obtain ⟨u, a, b, c, d⟩ := h2 j hj
  exact ⟨u, a, b, c, d.mono hb⟩
/-- The list's own block. -/
theorem NewT.block {base : Nat} {W : World} {v : Value} {sts : StepL} (h : NewT base W v sts) {k : Nat} (hk : v.ownBlock = some k) : base ≤ k ∧ ∃ cs p, W.heap[k]? = some (.cells cs 54 p) := by
  obtain ⟨us, h1, _⟩ := h
  rcases h1.2 with ⟨rfl, _⟩ | ⟨g, cap, cur, rfl, hb, hgb, _⟩
  · cases hk
  · obtain rfl : g = k := by simpa [Value.ownBlock] using hk
    exact ⟨hb, _, _, hgb⟩
theorem NewT.slice {base : Nat} {W : World} {v : Value} {sts : StepL} (h : NewT base W v sts) : ∃ a cap, v = .slice a sts.length cap := by
  obtain ⟨us, h1, _⟩ := h
  rcases h1.2 with ⟨rfl, h0⟩ | ⟨g, cap, cur, rfl, _⟩
  · exact ⟨none, 0, by rw [h0]⟩
  · exact ⟨_, _, rfl⟩
theorem Try.infoSteps : Try.prog.underlying 50 = some (.slice 54) := by kernel_rfl

/-- 'append(out, Step{..})', within a round. -/
theorem wpi_append_step {F : Fence} {n : Nat} {ops : Array Oper} {rest : List Oper} {o : Oper} {a : Act} {Q : Exit → Act → World → Prop} (w : World) (hgd : o.guard = none) (s x : Operand)
    (ho : o.op = .call { callee := .builtin .append, args := #[s, x], argTypes := #[50, 50] }) (base : Nat) (v : Value) (sts : StepL) (hs : a.eval s = v) (hN : NewT base w v sts)
    (u : Value) (r p : Nat) (t : List Int) (B : Nat) (hx : a.eval x = .slice (some ⟨B, 0, none⟩) 1 1) (hB0 : w.cell? ⟨B, 0, none⟩ = some (.int .i64 (r : Int))) (hB1 : w.cell? ⟨B, 1, none⟩ = some (.int .i64 (p : Int))) (hB2 : w.cell? ⟨B, 2, none⟩ = some u) (hu : New base w u t) (hlen : sts.length ≤ 1000000) (hbase : base ≤ w.heap.size)
    (h : ∀ v' w', NewT base w' v' (sts ++ [(r, p, t)]) → w.grownBy w' v.ownBlock → (∃ g cap, v' = .slice (some ⟨g, 0, none⟩) (sts.length + 1) cap) → wpListIn F n Try.prog ops Q rest (a.put o.dst v') w') : wpListIn F n Try.prog ops Q (o :: rest) a w := by
  obtain ⟨i0, hi, hz0, hz1, hz2⟩ := info_parts Try.info54
  obtain ⟨us, h1, h2⟩ := hN
  have hul : us.length = sts.length * 3 := h1.1
  refine wpListIn_append_own w hgd s x 50 ho base 54 i0 (.agg #[.int .i64 0, .int .i64 0, .slice none 0 0]) 3 40 Try.infoSteps hi hz0 hz1 hz2 rfl (by decide) v sts.length us hs h1 ⟨B, 0, none⟩ 1 1 [.int .i64 (r : Int), .int .i64 (p : Int), u] hx (by simp)
    (by intro j z hj
        match j, hj with
        | 0, hj => simp at hj; subst hj; rw [Go.WideShapes.add_plain]; simpa using hB0
        | 1, hj => simp at hj; subst hj; rw [Go.WideShapes.add_plain]; simpa using hB1
        | 2, hj => simp at hj; subst hj; rw [Go.WideShapes.add_plain]; simpa using hB2)
    (by intro z hz; simp at hz; obtain ⟨_, _, rfl, _⟩ := New.ints hu; rcases hz with rfl | rfl | rfl <;> rfl) (by unfold maxLen; omega) (by omega) hbase ?_
  intro v' w' hown hg _
  have hkeep : ∀ (u' : Value) (t' : List Int), New base w u' t' → New base w' u' t' := fun u' t' hN' => World.ownsRow.kept hN' hg (New.apartT hN' h1)
  refine h v' w' ⟨us ++ [.int .i64 (r : Int), .int .i64 (p : Int), u], by simpa using hown, fun j hj => ?_⟩ hg (ownsRow_succ hown)
  by_cases hjl : j < sts.length
  · obtain ⟨u', q1, q2, q3, hN'⟩ := h2 j hjl
    rw [List.getElem?_append_left hjl, List.getElem?_append_left (by omega), List.getElem?_append_left (by omega), List.getElem?_append_left (by omega)]
    exact ⟨u', q1, q2, q3, hkeep u' _ hN'⟩
  · have hje : j = sts.length := by simp at hj; omega
    subst hje
    rw [List.getElem?_append_right (Nat.le_refl _), List.getElem?_append_right (by omega), List.getElem?_append_right (by omega), List.getElem?_append_right (by omega), hul]
    refine ⟨u, by simp, by simp, by simp, ?_⟩
    simpa using hkeep u t hu

end Go.Proofs.Ytgeknojpcjadkaa

namespace Go.Proofs.Ytgeknojpcjadkaa
open Go.Proofs Go.RowKit Go.Shelf

attribute [local go_sem] Oper.semAt_some

set_option maxHeartbeats 400000 in
theorem placesx_in (F : Fence) (hF : Pl F) (n : Nat) (a : Option Addr) (len cap : Nat) (w : World) :
    CallsIn F n Try.prog 54 #[.slice a len cap] w fun e w' => e = .returned (.func (.func 90) #[] #[.pointer (some ⟨w.heap.size, 0, none⟩)]) ∧
      w' = w.alloc (.cells #[.slice a len cap] 37) := by
  obtain ⟨hro, hfn, hdd⟩ := fx_facts hF
  have hf := hfn _ _ Try.func54
  clear hF hfn
  refine callsIn_of_wp Try.func54 rfl hf ?_ hro
  simp only [Try.ntmps54, List.size_toArray, List.length_cons, List.length_nil, Nat.reduceAdd, Nat.reduceSub, Array.replicate_succ, Array.replicate_zero, List.push_toArray, List.append_toArray, List.nil_append, List.cons_append]
  gi_wp2
  go_ret
  exact ⟨rfl, rfl⟩

def encPl (zs : List Int) (i : Nat) : Array Value := #[.int .i64 (i : Int), .int .i64 (Tm.endAt zs i : Int)]
/-- What the iterator reads. -/
def PlacesRd (Bt cap : Nat) (a : Option Addr) (zs : List Int) (W : World) : Prop := W.cell? ⟨Bt, 0, none⟩ = some (.slice a zs.length cap) ∧ Ints W.heap.size W a zs

set_option maxRecDepth 100000 in
set_option maxHeartbeats 1000000 in
theorem places_steps (F : Fence) (hF : Pl F) (n Bt cap : Nat) (a : Option Addr) (zs : List Int) (hlen : zs.length ≤ 5000) :
    SeqSteps F n Try.prog 90 #[.pointer (some ⟨Bt, 0, none⟩)] (encPl zs) zs.length (PlacesRd Bt cap a zs) := by
  intro l J Jx Jp W hJ hR hY h0
  obtain ⟨hro, hfn, hdd⟩ := fx_facts hF
  have HE := hid (fun n p W h2 h3 => endx_all F hF zs hlen a cap _ p n (Nat.le_refl _) h2 W h3)
  clear hF
  have hf55 := hfn _ _ Try.func90
  have hf32 := hfn _ _ Try.func89
  obtain ⟨hbt, _⟩ := hR 0 W h0
  have hl5 : (zs.length : Int) ≤ 5000 := by omega
  have HY := hid hY
  have HR := hid hR
  clear hY hR
  refine callsIn_of_wp Try.func90 rfl hf55 ?_ hro
  simp only [Try.ntmps90, List.size_toArray, List.length_cons, List.length_nil, Nat.reduceAdd, Nat.reduceSub, Array.replicate_succ, Array.replicate_zero, List.push_toArray, List.append_toArray, List.nil_append, List.cons_append]
  gi_wp2
  gi_loopw [6] (fun i wr => ∃ m : Nat, m ≤ zs.length ∧ i = .int .i64 (m : Int) ∧ J m wr) (fun i _ => zs.length - (intOf i).toNat)
  case atStart => exact ⟨0, Nat.zero_le _, rfl, h0⟩
  case round =>
    obtain ⟨m, hm, rfl, hJs⟩ := hrel
    obtain ⟨hbt', hI'⟩ := HR.out m wr hJs
    by_cases hlt : m < zs.length
    · have hlt' : (m : Int) < (zs.length : Int) := by omega
      have h1' := (HE.out (n - 1) m wr (by omega) hI').mono (R' := fun e W1 => e = .returned (.int .i64 (Tm.endAt zs m : Int)) ∧ YieldAt F (n - 1) Try.prog l #[.int .i64 (m : Int), .int .i64 (Tm.endAt zs m : Int)] W1 fun e W' =>
          (e = .returned (.bool true) ∧ J (m + 1) W') ∨ (e = .returned (.bool false) ∧ Jx W') ∨ ∃ ch, e = .panicked ch ∧ Jp ch W')
        (fun e W1 ⟨he, hB⟩ => ⟨he, by
          have hJ1 := hJ _ _ _ none hJs (grown_of_below hB) (fun r e => by cases e)
          refine YieldAt.mono (HY.out m W1 hJ1 hlt) fun e W2 h => ?_
          exact h⟩)
      gi_wp2_with (first
        | ((try refine ⟨hdd _, ?_⟩); gi_at_call 89; refine h1'.mono ?_; clear h1'; rintro e W1 ⟨rfl, fn, tmps, assign, body, hy, hR⟩)
        | ((try refine ⟨hdd _, ?_⟩); refine hR.mono ?_; clear hR; rintro e W2 (⟨rfl, hJ2⟩ | ⟨rfl, hx2⟩ | ⟨ch, rfl, hp2⟩)))
      · exact ⟨⟨m + 1, by omega, by go_num, hJ2⟩, by simp [intOf]; omega⟩
      · refine bodyPost_ret (results_none rfl _ _ _) rfl ?_
        exact .inl ⟨⟨_, rfl⟩, .inr hx2⟩
      · exact ⟨rfl, .inr ⟨ch, rfl, hp2⟩⟩
    · obtain rfl : m = zs.length := by omega
      have hlt' : ¬ (zs.length : Int) < (zs.length : Int) := by omega
      gi_wp2
      go_end0
      exact .inl ⟨⟨_, rfl⟩, .inl hJs⟩

end Go.Proofs.Ytgeknojpcjadkaa

namespace Go.Proofs.Ytgeknojpcjadkaa
open Go.Proofs Go.RowKit Go.Shelf Go.Maps

theorem results_box2 {fn : Func} {tmps : Array Value} {w : World} {a b B C : Nat} {ad : Option Addr} {n c : Nat} {x : Int} (h : fn.results = #[.cell a 50, .cell b 31]) (ha : tmps.getD a undef = .pointer (some ⟨B, 0, none⟩)) (hb : tmps.getD b undef = .pointer (some ⟨C, 0, none⟩))
    (hc : w.cell? ⟨B, 0, none⟩ = some (.slice ad n c)) (hd : w.cell? ⟨C, 0, none⟩ = some (.int .i64 x)) : (results fn tmps).run Try.prog w = .ok (.tuple #[.slice ad n c, .int .i64 x]) w := by
  have ha' : tmps[a]?.getD undef = .pointer (some ⟨B, 0, none⟩) := by rw [← ha]; simp
  have hb' : tmps[b]?.getD undef = .pointer (some ⟨C, 0, none⟩) := by rw [← hb]; simp
  simp only [results, h]
  simp [go_sem, ha', hb', hc, hd]

/-- What stands while steps come. -/
structure StInv (w2 : World) (B : Nat) (tv : Value) (l : StepL) (W : World) : Prop where
  out : ∃ v, Boxed W B 50 v ∧ NewT B W v l
  bP : Boxed W (B + 1) 37 tv
  kp : Below B w2 W
theorem StInv.own {w2 X Y : World} {B D : Nat} {tv : Value} {l : StepL} {row : Option Nat} (hB : B ≤ w2.heap.size) (hD : B ≤ D) (h : StInv w2 B tv l X) (hg : X.grownBy Y row) (hr : ∀ r, row = some r → D ≤ r ∧ ∃ o : Obj, X.heap[r]? = some o ∧ o.isCells = false) : StInv w2 B tv l Y := by
  obtain ⟨⟨v, hv, hN⟩, bP, kp⟩ := h
  exact ⟨⟨v, cells_own hv hg hr, hN.other hg (fun r e => (hr r e).2)⟩, cells_own bP hg hr, ⟨hg.os.trans kp.os, hg.tape.trans kp.tape, hg.output.trans kp.output, Nat.le_trans kp.size hg.size, fun k hk => (hg.block k (by have := kp.size; omega) (fun e => by have := (hr k e.symm).1; omega)).trans (kp.block k hk)⟩⟩
theorem StInv.below {w2 W W' : World} {B : Nat} {tv : Value} {l : StepL} (hB : B ≤ w2.heap.size) (h : StInv w2 B tv l W) (hb : Below W.heap.size W W') : StInv w2 B tv l W' := by
  obtain ⟨⟨v, hv, hN⟩, bP, kp⟩ := h
  exact ⟨⟨v, (hb.block _ hv.lt).trans hv, hN.below hb⟩, (hb.block _ bP.lt).trans bP, kp.trans (hb.mono (Nat.le_trans hB kp.size))⟩
theorem keepsFrom_below {C : Nat} {W W' : World} (hb : Below W.heap.size W W') : KeepsFrom C W W' := ⟨hb.size, fun k _ _ ho _ => (hb.block k (Array.getElem?_eq_some_iff.1 ho).1).trans ho⟩
/-- One step more. -/
theorem st_append {w2 W w' : World} {B C : Nat} {tv v v' : Value} {l : StepL} {x : Nat × Nat × List Int} {tmp : Obj} (hB : B ≤ w2.heap.size) (hv : Boxed W B 50 v) (hN : NewT B W v l) (bP : Boxed W (B + 1) 37 tv) (kp : Below B w2 W) (hN' : NewT B w' v' (l ++ [x])) (hg : (W.alloc tmp).grownBy w' v.ownBlock) :
    Boxed w' B 50 v ∧ StInv w2 B tv (l ++ [x]) (w'.setCell ⟨B, 0, none⟩ v') ∧ KeepsFrom C W (w'.setCell ⟨B, 0, none⟩ v') := by
  have hBW : B ≤ W.heap.size := Nat.le_trans hB kp.size
  have hne : ∀ {D : Nat} {e : TypeId} {y : Value}, Boxed W D e y → e ≠ 54 → some D ≠ v.ownBlock := fun hb he e' => by
    obtain ⟨_, cs, p, h⟩ := hN.block e'.symm
    exact boxed_ne hb he cs p h
  have hv1 : Boxed w' B 50 v := (hv.alloc tmp).kept hg (hne hv (by decide))
  have bP1 : Boxed w' (B + 1) 37 tv := (bP.alloc tmp).kept hg (hne bP (by decide))
  refine ⟨hv1, ⟨⟨v', hv1.set v', hN'.set hv1 (by decide) (by decide) v'⟩, (Below.heap_setCell w' ⟨B, 0, none⟩ v' (B + 1) (by show B + 1 ≠ B; omega)).trans bP1, kp.trans ?_⟩, ?_⟩
  · refine (((Below.refl B W).alloc hBW tmp).grown hg (by simp; omega) fun j ej => (hN.block ej).1).setCell (p := ⟨B, 0, none⟩) (Nat.le_refl _) v'
  · refine KeepsOthers.from (((KeepsOthers.alloc W tmp).trans (KeepsOthers.of_grownBy hg fun j o ej hj => ?_)).trans (KeepsOthers.setCell _ _ _)) C
    obtain ⟨_, cs, p, h⟩ := hN.block ej
    have h2 : (W.alloc tmp).heap[j]? = some (.cells cs 54 p) := (Below.heap_alloc W tmp j (Array.getElem?_eq_some_iff.1 h).1).trans h
    rw [h2] at hj
    cases hj
    rfl

end Go.Proofs.Ytgeknojpcjadkaa
